import PyProof.Rows.All
import Wide.All
import OpenK.AllK
import Wide.FinOn
import HandS.ForSpec
import HandS.Comp
import HandS.SortKw
import KE.OsGo
import Open.SpecLaws
import PySem.Challenge.RW_clashrules_s01_goes
set_option Elab.async false
set_option maxRecDepth 100000
set_option maxHeartbeats 2000000
namespace Cl
open Kzi1 Kzi2

theorem bit_test (r q : Nat) : bit r q = r.testBit q := by
  rw [Nat.testBit_eq_decide_div_mod_eq]
  unfold bit
  by_cases h : r / 2 ^ q % 2 = 1
  · rw [h]; rfl
  · rw [decide_eq_false h]
    exact beq_false_of_ne h

theorem tb_lt {a m q : Nat} (h : a < 2 ^ m) (hq : a.testBit q = true) : q < m := by
  rcases Nat.lt_or_ge q m with c | c
  · exact c
  · have := Nat.testBit_lt_two_pow (Nat.lt_of_lt_of_le h (Nat.pow_le_pow_right (by decide) c))
    rw [this] at hq
    cases hq

theorem okSome_iff (m a b : Nat) : okSome m a b = true ↔ a < 2 ^ m ∧ a &&& b = b := by
  unfold okSome
  rw [Bool.and_eq_true, Bool.and_eq_true, decide_eq_true_iff, decide_eq_true_iff, List.all_eq_true]
  constructor
  · rintro ⟨⟨ha, hb⟩, h⟩
    refine ⟨ha, Nat.eq_of_testBit_eq fun q => ?_⟩
    rw [Nat.testBit_and]
    cases e : b.testBit q with
    | false => rw [Bool.and_false]
    | true =>
      have := h q (List.mem_range.mpr (tb_lt hb e))
      rw [bit_test, bit_test, e] at this
      simpa using this
  · rintro ⟨ha, e⟩
    refine ⟨⟨ha, ?_⟩, fun q _ => ?_⟩
    · rw [← e]
      exact Nat.lt_of_le_of_lt Nat.and_le_left ha
    · rw [bit_test, bit_test, ← e, Nat.testBit_and]
      cases a.testBit q <;> simp

theorem has_iff {m a b r : Nat} (ha : a < 2 ^ m) (hb : a &&& b = b) : has m a b r = true ↔ r &&& a = b := by
  unfold has
  rw [List.all_eq_true]
  constructor
  · intro h
    refine Nat.eq_of_testBit_eq fun q => ?_
    rw [Nat.testBit_and]
    cases e : a.testBit q with
    | false =>
      have : b.testBit q = false := by rw [← hb, Nat.testBit_and, e, Bool.false_and]
      rw [this, Bool.and_false]
    | true =>
      have := h q (List.mem_range.mpr (tb_lt ha e))
      rw [bit_test, bit_test, bit_test, e] at this
      simpa using this
  · intro e q _
    rw [bit_test, bit_test, bit_test, ← e, Nat.testBit_and]
    cases a.testBit q <;> simp

theorem distinct_iff : ∀ l : List Nat, distinct l = true ↔ l.Nodup
  | [] => by simp [distinct]
  | x :: l => by
    unfold distinct
    rw [Bool.and_eq_true, distinct_iff l, List.nodup_cons]
    simp

theorem okRules_iff (m : Nat) (ok : List Nat) : okRules m ok = true ↔ (1 ≤ m ∧ m ≤ 5) ∧ ok ≠ [] ∧ (∀ r ∈ ok, r < 2 ^ m) ∧ ok.Nodup := by
  unfold okRules
  simp only [Bool.and_eq_true, decide_eq_true_iff, distinct_iff, List.all_eq_true, Bool.not_eq_true', List.isEmpty_eq_false_iff]
  constructor
  · rintro ⟨⟨⟨h1, h2⟩, h3⟩, h4⟩
    exact ⟨h1, h2, h3, h4⟩
  · rintro ⟨h1, h2, h3, h4⟩
    exact ⟨⟨⟨h1, h2⟩, h3⟩, h4⟩

theorem with_mem {m : Nat} {ok : List Nat} {a b r : Nat} : r ∈ with_ m ok a b ↔ r < 2 ^ m ∧ r ∈ ok ∧ has m a b r = true := by
  unfold with_ stand rows
  simp only [List.mem_filter, List.mem_range, List.contains_iff_mem]
  exact and_assoc

theorem with_rising (m : Nat) (ok : List Nat) (a b : Nat) : (with_ m ok a b).Pairwise (· < ·) := by
  unfold with_ stand rows
  exact (List.pairwise_lt_range.filter _).filter _

/-- two strictly rising lists with the same members are one -/
theorem rising_ext : ∀ {l k : List Nat}, l.Pairwise (· < ·) → k.Pairwise (· < ·) → (∀ x, x ∈ l ↔ x ∈ k) → l = k
  | [], [], _, _, _ => rfl
  | [], y :: k, _, _, h => by
    have := (h y).mpr (List.mem_cons_self ..)
    cases this
  | x :: l, [], _, _, h => by
    have := (h x).mp (List.mem_cons_self ..)
    cases this
  | x :: l, y :: k, hl, hk, h => by
    rw [List.pairwise_cons] at hl hk
    have e : x = y := by
      have h1 := (h x).mp (List.mem_cons_self ..)
      have h2 := (h y).mpr (List.mem_cons_self ..)
      rw [List.mem_cons] at h1 h2
      rcases h1 with h1 | h1
      · exact h1
      · rcases h2 with h2 | h2
        · exact h2.symm
        · have a1 := hl.1 _ h2
          have a2 := hk.1 _ h1
          omega
    subst e
    congr 1
    refine rising_ext hl.2 hk.2 fun z => ?_
    constructor
    · intro hz
      have a1 := hl.1 _ hz
      have := (h z).mp (List.mem_cons_of_mem _ hz)
      rw [List.mem_cons] at this
      rcases this with e | e
      · omega
      · exact e
    · intro hz
      have a1 := hk.1 _ hz
      have := (h z).mpr (List.mem_cons_of_mem _ hz)
      rw [List.mem_cons] at this
      rcases this with e | e
      · omega
      · exact e
end Cl
namespace Cl
open Kzi1 Kzi2

/-- a & b of two numbers that are not below 0, as a number -/
def land (x y : Int) : Int := ((x.toNat &&& y.toNat : Nat) : Int)
def OkR (m : Int) (ns : List Int) : Prop := (1 ≤ m ∧ m ≤ 5) ∧ ns ≠ [] ∧ (∀ x ∈ ns, x < 2 ^ m.toNat) ∧ ns.Nodup
def OkA (m a b : Int) : Prop := a < 2 ^ m.toNat ∧ land a b = b

theorem pow_cast (k : Nat) : ((2 ^ k : Nat) : Int) = 2 ^ k := by
  rw [Int.natCast_pow]; rfl
theorem lt_pow_nat {x : Int} (hx : 0 ≤ x) (k : Nat) : x.toNat < 2 ^ k ↔ x < 2 ^ k := by
  have e := pow_cast k
  constructor
  · intro h
    have : (x.toNat : Int) < ((2 ^ k : Nat) : Int) := Int.ofNat_lt.mpr h
    rw [e] at this
    omega
  · intro h
    have : (x.toNat : Int) < ((2 ^ k : Nat) : Int) := by rw [e]; omega
    exact Int.ofNat_lt.mp this

theorem nodup_nats {ns : List Int} (h0 : ∀ x ∈ ns, 0 ≤ x) : (ns.map Int.toNat).Nodup ↔ ns.Nodup := by
  unfold List.Nodup
  rw [List.pairwise_map]
  constructor
  · intro h
    exact h.imp fun {a b} hab e => hab (by rw [e])
  · intro h
    exact h.imp_of_mem fun {a b} ha hb hab e => hab (by
      have h1 := h0 a ha
      have h2 := h0 b hb
      omega)

theorem okR_spec {m : Int} {ns : List Int} (h0 : ∀ x ∈ ns, 0 ≤ x) : okRules m.toNat (Kzi2Neutral.natsOf ns) = true ↔ OkR m ns := by
  rw [okRules_iff]
  unfold OkR Kzi2Neutral.natsOf
  rw [nodup_nats h0]
  have e1 : (1 ≤ m.toNat ∧ m.toNat ≤ 5) ↔ (1 ≤ m ∧ m ≤ 5) := by omega
  have e2 : ns.map Int.toNat ≠ [] ↔ ns ≠ [] := by
    rw [ne_eq, List.map_eq_nil_iff]
  have e3 : (∀ r ∈ ns.map Int.toNat, r < 2 ^ m.toNat) ↔ ∀ x ∈ ns, x < 2 ^ m.toNat := by
    rw [List.forall_mem_map]
    constructor
    · intro h x hx
      exact (lt_pow_nat (h0 x hx) _).mp (h x hx)
    · intro h x hx
      exact (lt_pow_nat (h0 x hx) _).mpr (h x hx)
  rw [e1, e2, e3]

theorem land_nat {a b : Int} (hb : 0 ≤ b) : land a b = b ↔ a.toNat &&& b.toNat = b.toNat := by
  unfold land
  constructor
  · intro h; omega
  · intro h; rw [h]; omega
theorem okA_spec {m a b : Int} (ha : 0 ≤ a) (hb : 0 ≤ b) : okSome m.toNat a.toNat b.toNat = true ↔ OkA m a b := by
  rw [okSome_iff, lt_pow_nat ha, ← land_nat hb]
  rfl

/-- the rows that have the answers, in the order in which they stand -/
def having (a b : Int) (ns : List Int) : List Int := ns.filter fun r => decide (land r a = b)

theorem cast_back {zs : List Int} (z0 : ∀ x ∈ zs, 0 ≤ x) : zs = zs.map ((fun (x : Nat) => (x : Int)) ∘ Int.toNat) := by
  conv => lhs; rw [← List.map_id zs]
  refine List.map_congr_left fun x hx => ?_
  have h := z0 x hx
  show x = (x.toNat : Int)
  omega
theorem having_spec {m a b : Int} {ns zs : List Int} (h0 : ∀ x ∈ ns, 0 ≤ x) (ha : 0 ≤ a) (hb : 0 ≤ b) (hR : OkR m ns) (hA : OkA m a b)
    (hp : zs.Perm (having a b ns)) (hs : zs.Pairwise (· ≤ ·)) : zs = Kzi2Neutral.ints (with_ m.toNat (Kzi2Neutral.natsOf ns) a.toNat b.toNat) := by
  have hA' := (okSome_iff _ _ _).mp ((okA_spec (m := m) ha hb).mpr hA)
  have z0 : ∀ x ∈ zs, 0 ≤ x := fun x hx => h0 x (List.mem_filter.mp ((hp.mem_iff).mp hx)).1
  have znd : zs.Nodup := hp.nodup_iff.mpr (hR.2.2.2.filter _)
  have e : zs.map Int.toNat = with_ m.toNat (Kzi2Neutral.natsOf ns) a.toNat b.toNat := by
    refine rising_ext ?_ (with_rising _ _ _ _) fun r => ?_
    · rw [List.pairwise_map]
      refine (hs.and znd).imp_of_mem fun {x y} hx hy h => ?_
      have h1 := z0 x hx
      have h2 := z0 y hy
      have h3 := h.1
      have h4 := h.2
      omega
    · rw [with_mem]
      constructor
      · intro hr
        obtain ⟨x, hx, rfl⟩ := List.mem_map.mp hr
        obtain ⟨hx1, hx2⟩ := List.mem_filter.mp ((hp.mem_iff).mp hx)
        refine ⟨(lt_pow_nat (h0 x hx1) _).mpr (hR.2.2.1 x hx1), List.mem_map_of_mem hx1, (has_iff hA'.1 hA'.2).mpr ?_⟩
        have := of_decide_eq_true hx2
        unfold land at this
        omega
      · rintro ⟨h1, h2, h3⟩
        obtain ⟨x, hx, rfl⟩ := List.mem_map.mp h2
        refine List.mem_map_of_mem ((hp.mem_iff).mpr (List.mem_filter.mpr ⟨hx, decide_eq_true ?_⟩))
        have := (has_iff hA'.1 hA'.2).mp h3
        unfold land
        omega
  unfold Kzi2Neutral.ints
  rw [← e, List.map_map]
  exact cast_back z0

theorem goes_bad {m a b : Int} {ns : List Int} (h0 : ∀ x ∈ ns, 0 ≤ x) (ha : 0 ≤ a) (hb : 0 ≤ b) (h : ¬ (OkR m ns ∧ OkA m a b)) : PyKzi2.goes m a b ns = [-22] := by
  have hc : okRules m.toNat (Kzi2Neutral.natsOf ns) = false ∨ okSome m.toNat a.toNat b.toNat = false := by
    rw [← Bool.not_eq_true, ← Bool.not_eq_true, okR_spec h0, okA_spec ha hb]
    exact Classical.not_and_iff_not_or_not.mp h
  unfold PyKzi2.goes Kzi2Neutral.f Kzi2Neutral.callOf Kzi2.answer
  simp only [if_pos hc]
  rfl
theorem goes_good {m a b : Int} {ns zs : List Int} (h0 : ∀ x ∈ ns, 0 ≤ x) (ha : 0 ≤ a) (hb : 0 ≤ b) (hR : OkR m ns) (hA : OkA m a b)
    (hp : zs.Perm (having a b ns)) (hs : zs.Pairwise (· ≤ ·)) : PyKzi2.goes m a b ns = (zs.length : Int) :: zs := by
  have hc : ¬ (okRules m.toNat (Kzi2Neutral.natsOf ns) = false ∨ okSome m.toNat a.toNat b.toNat = false) := by
    rw [← Bool.not_eq_true, ← Bool.not_eq_true, okR_spec h0, okA_spec ha hb]
    exact fun z => z.elim (fun q => q hR) fun q => q hA
  have e := having_spec h0 ha hb hR hA hp hs
  unfold PyKzi2.goes Kzi2Neutral.f Kzi2Neutral.callOf Kzi2.answer
  simp only [if_neg hc]
  rw [e]
  unfold told Kzi2Neutral.ints
  rw [List.length_map]
end Cl
namespace Cl
open PySem PySem.Spec PyProof.Rows L2
/-! ### how many different numbers a list has -/
theorem dedup_len {acc : List Int} {x : Int} : (step_dedup acc x).length ≤ acc.length + 1 ∧ ((step_dedup acc x).length = acc.length + 1 ↔ x ∉ acc) := by
  unfold step_dedup
  have e : acc.any (· == x) = true ↔ x ∈ acc := by
    rw [List.any_eq_true]
    constructor
    · rintro ⟨y, hy, h⟩
      rw [← eq_of_beq h]
      exact hy
    · intro h
      exact ⟨x, h, beq_self_eq_true x⟩
  by_cases h : acc.any (· == x) = true
  · rw [if_pos h]
    refine ⟨Nat.le_succ _, fun z => ?_, fun z => absurd (e.mp h) z⟩
    omega
  · rw [if_neg h, List.length_append]
    exact ⟨Nat.le_refl _, fun _ z => h (e.mpr z), fun _ => rfl⟩
theorem dedup_mem {acc : List Int} {x y : Int} : y ∈ step_dedup acc x ↔ y ∈ acc ∨ y = x := by
  unfold step_dedup
  by_cases h : acc.any (· == x) = true
  · rw [if_pos h]
    obtain ⟨z, hz, ez⟩ := List.any_eq_true.mp h
    have ez2 : z = x := eq_of_beq ez
    subst ez2
    constructor
    · exact fun q => .inl q
    · rintro (q | q)
      · exact q
      · rw [q]
        exact hz
  · rw [if_neg h, List.mem_append, List.mem_singleton]
/-- a list added to a list of different numbers, each only once -/
theorem fold_len : ∀ (l acc : List Int), (l.foldl step_dedup acc).length ≤ acc.length + l.length ∧
    ((l.foldl step_dedup acc).length = acc.length + l.length ↔ (l.Nodup ∧ ∀ x ∈ l, x ∉ acc))
  | [], acc => ⟨Nat.le_refl _, by simp⟩
  | x :: l, acc => by
    obtain ⟨h1, h2⟩ := fold_len l (step_dedup acc x)
    obtain ⟨d1, d2⟩ := dedup_len (acc := acc) (x := x)
    rw [List.foldl_cons, List.length_cons]
    refine ⟨by omega, fun z => ?_, fun ⟨n, m⟩ => ?_⟩
    · have e1 : (step_dedup acc x).length = acc.length + 1 := by omega
      have hx := d2.mp e1
      obtain ⟨n, m⟩ := h2.mp (by omega)
      refine ⟨List.nodup_cons.mpr ⟨fun hm => m x hm (dedup_mem.mpr (.inr rfl)), n⟩, fun y hy => ?_⟩
      rcases List.mem_cons.mp hy with e | hy
      · rw [e]
        exact hx
      · exact fun q => m y hy (dedup_mem.mpr (.inl q))
    · obtain ⟨nx, n⟩ := List.nodup_cons.mp n
      have e1 := d2.mpr (m x (List.mem_cons_self ..))
      have e2 := h2.mpr ⟨n, fun y hy q => ?_⟩
      · omega
      · rcases dedup_mem.mp q with q | q
        · exact m y (List.mem_cons_of_mem _ hy) q
        · rw [q] at hy
          exact nx hy
theorem range_getD (ns : List Int) : (List.range ns.length).map (fun i => ns.getD i 0) = ns := by
  refine List.ext_getElem (by simp) fun i h1 h2 => ?_
  rw [List.getElem_map, List.getElem_range, List.getD_eq_getElem?_getD, List.getElem?_eq_getElem h2]
  rfl
theorem met_len (ns : List Int) : (firstMet (fun i => ns.getD i 0) ns.length).length = ns.length ↔ ns.Nodup := by
  unfold firstMet
  rw [range_getD]
  have h := (fold_len ns []).2
  rw [List.length_nil, Nat.zero_add] at h
  rw [h]
  constructor
  · exact fun q => q.1
  · exact fun q => ⟨q, fun x _ z => by cases z⟩
/-! ### len(set(xs)), whatever the list of numbers -/
def tLenSetA (K : PySem.W.Frag) (ta : TE) : TE := fun σ H Q => ta σ H fun x H1 =>
  ∃ (l : Addr) (ns : List Int), x = .ref l ∧ SqL K H1 l (ns.map V.int) ∧ ns.length ≤ 4000 ∧
    ∀ n : Nat, (n = ns.length ↔ ns.Nodup) → Q (.int (n : Nat)) H1
theorem pe_lenSetA {X : Cx} {a : Expr} {ta : TE} {p p2 q pos : Pos} (g1 : Gl X "len") (m1 : X.mg "len" = none)
    (g2 : Gl X "set") (m2 : X.mg "set" = none) (ha : PE X a ta) (hc : X.calm = true := by rfl)
    (na : starEach [a] X.env = (false, eval a X.env) :: starEach [] X.env := by rfl) :
    PE X (.Call (.Name "len" p) [.Call (.Name "set" p2) [a] [] q] [] pos) (tLenSetA X.K ta) := by
  constructor
  intro pins s σ H Q I h
  refine Call_ ?_
  refine ld_blt I g1 m1 boot_len ?_
  refine callWith_builtin1 (args_cons ?_ rfl) rfl rfl
  refine Call_ ?_
  refine ld_blt I g2 m2 boot_set ?_
  refine callWith_type1 (args_cons (thn (ha.run pins s σ H _ I h) ?_) na) na rfl
  rintro v s1 ⟨x, H1, I1, r1, l, ns, rfl, hq, hl, k⟩
  refine args_nil ?_
  cases r1
  obtain ⟨its, r, pl, hz⟩ := I1.list hq
  have hi := r.ints
  have sz : its.toArray.size = ns.length := by
    rw [List.size_toArray, ← r.length, List.length_map]
  refine call_set_list (I1.ok.hd hc) pl.isList (by simpa using hi) ?_ ?_
  · rw [sz]
    unfold scanBound
    omega
  intro h2 tk hS hk
  refine args_nil ?_
  rw [sz] at hS
  obtain ⟨o, es, ep, t, ho, hex, hd, _, _, _, hf, hn⟩ := hS
  have I2 : Inv X pins σ H1 { s1 with heap := h2, toks := tk } := I1.kept fun b o e => hk b o (Heap.lt_size e) e
  have small := firstMet_length_le (fun i => ns.getD i 0) ns.length
  refine call_len_set ho hex hd hf (by rw [hn]; omega) ?_
  exact ⟨.int _, H1, I2.tok _, ⟨_, rfl⟩, k es.size (by rw [hn]; exact met_len ns)⟩
end Cl
namespace Cl
open PySem PySem.Spec PyProof.Rows L2
/-! ### the text -/
def topS (i : Nat) : Stmt := PySem.Challenge.pw_clashrules_s01_goes.main.body.getD i (.Pass ⟨0, 0, 0, 0⟩)
abbrev sPow : Stmt := topS 3
abbrev sRules : Stmt := topS 4
abbrev sAnsw : Stmt := topS 5
abbrev sAll : Stmt := topS 6
abbrev sHave : Stmt := topS 7
abbrev sGoes : Stmt := topS 8
theorem scPow : FnScope ["n", "power", "step"] ["n"] (defScope sPow) := ⟨rfl, rfl, rfl, by decide +kernel, rfl, by decide +kernel, by decide +kernel⟩
theorem scRules : FnScope ["m", "ok"] ["m", "ok"] (defScope sRules) := ⟨rfl, rfl, rfl, by decide +kernel, rfl, by decide +kernel, by decide +kernel⟩
theorem scAnsw : FnScope ["m", "a", "b"] ["m", "a", "b"] (defScope sAnsw) := ⟨rfl, rfl, rfl, by decide +kernel, rfl, by decide +kernel, by decide +kernel⟩
theorem scAll : FnScope ["m", "a", "b", "ok"] ["m", "a", "b", "ok"] (defScope sAll) := ⟨rfl, rfl, rfl, by decide +kernel, rfl, by decide +kernel, by decide +kernel⟩
theorem scHave : FnScope ["a", "b", "ok", "row"] ["a", "b", "ok"] (defScope sHave) := ⟨rfl, rfl, rfl, by decide +kernel, rfl, by decide +kernel, by decide +kernel⟩
theorem scGoes : FnScope ["m", "a", "b", "ok", "rows"] ["m", "a", "b", "ok"] (defScope sGoes) := ⟨rfl, rfl, rfl, by decide +kernel, rfl, by decide +kernel, by decide +kernel⟩
theorem same_new {H : Hp} {p : Addr} {o : HO} (h : H p = none) : Same H (upd H p o) := fun b x e => by
  rw [upd_ne (ne_of_none e h)]
  exact e
/-- a def that stands in the module: where, what it takes, what its name means -/
structure Dn (K : PySem.W.Frag) (mg : Str → Option Value) (x : Str) (st : Stmt) (ps : List Str) where
  f : Addr
  fd : FuncData
  F : Fun K x x st f fd
  b : Binds K fd ps []
  g : mg x = some (.ref f)
section
variable {P : Program} {w : World} {K : PySem.W.Frag} {mg : Str → Option Value} {base : Heap}
/-! ### two_to_the_power -/
def spPow : Sp := fun vs H Q _ => ∃ n : Int, vs = [.int n] ∧ 0 ≤ n ∧ n ≤ 60 ∧ Q (.int (2 ^ n.toNat)) H
theorem ok_pow {k : Nat} (D : Dn K mg "two_to_the_power" sPow ["n"]) (mr : mg "range" = none) : FnOk P w K mg base CX0 (k + 1) D.f D.fd ["n"] spPow := by
  refine D.F.ok scPow (fun vs H Q E h => ?_) (fun cdv A outer s H vs Q E hr h => ?_)
  · obtain ⟨m, rfl, _⟩ := h
    rfl
  · obtain ⟨m, rfl, h0, h1, q⟩ := h
    refine ⟨_, pss_cons (ps_set (i := 1) scPow.nd rfl (.inl rfl) pe_int)
      (pss_cons (ps_for PassesOwn.never rfl (pi_range1 (by rfl) mr (pa_cons (pv 0) pa_nil)) (pg_name (i := 2) scPow.nd rfl (.inl rfl))
        (pss_one (ps_set (i := 1) scPow.nd rfl (.inl rfl) (pe_op op_mul (pv 1) pe_int))))
      (pss_one (ps_ret (pv 1)))), ?_⟩
    refine ⟨.int m, rfl, m, rfl, by omega, by omega, for_range (lo := 0) (n := m.toNat) (fun i σ H' => ∃ y, σ = [some (.int m), some (.int (2 ^ i)), y] ∧ H' = H) ⟨none, rfl, rfl⟩ ?_ ?_⟩
    · rintro i σ H' hi ⟨y, rfl, rfl⟩
      have b1 : (2 : Int) ^ i < 2 ^ 64 := by
        rw [← pow_cast, ← pow_cast]
        exact Int.ofNat_lt.mpr (Nat.pow_lt_pow_right (by decide) (by omega))
      have b0 : (0 : Int) < 2 ^ i := Int.pow_pos (by decide)
      refine ⟨_, rfl, _, _, rfl, rfl, .inl ⟨by omega, b1⟩, ?_⟩
      refine ⟨some (.int (0 + i)), ?_, rfl⟩
      rw [Int.pow_succ]
      rfl
    · rintro σ H' ⟨y, rfl, rfl⟩
      exact ⟨_, rfl, q⟩
/-! ### rules_are_right -/
def spRules (K : PySem.W.Frag) : Sp := fun vs H Q _ => ∃ (m : Int) (l : Addr) (ns : List Int), vs = [.int m, .ref l] ∧ SqL K H l (ns.map V.int) ∧ ns.length ≤ 40 ∧
  ∀ r : Bool, (r = true ↔ OkR m ns) → Q (.bl r) H
theorem ok_rules {k : Nat} (D : Dn K mg "rules_are_right" sRules ["m", "ok"]) (DP : Dn K mg "two_to_the_power" sPow ["n"])
    {tM : Tok} (gM : mg "MOST_QUESTIONS" = some (.int 5 tM)) (mr : mg "range" = none) (ml : mg "len" = none) (mx : mg "max" = none) (ms : mg "set" = none) :
    FnOk P w K mg base CX0 (k + 1 + 1) D.f D.fd ["m", "ok"] (spRules K) := by
  have GR : FnOk P w K mg base CX0 (k + 1) DP.f DP.fd ["n"] spPow := ok_pow DP mr
  refine D.F.ok scRules (fun vs H Q E h => ?_) (fun cdv A outer s H vs Q E hr h => ?_)
  · obtain ⟨m, l, ns, rfl, _⟩ := h
    rfl
  · obtain ⟨m, l, ns, rfl, hS, hl, q⟩ := h
    refine ⟨_, pss_cons (ps_if (PW.pt (pw_or (pt_cmpR op_lt (pv 0) pe_int (nomark _)) (pw_or1 (pt_cmpR op_gt (pv 0) (pe_glob (v := .int 5) rfl gM ⟨_, rfl⟩) (nomark _))))) (pss_one (ps_ret pe_bl)) pss_nil)
      (pss_cons (ps_if (PW.pt (pw_or (pt_cmpR op_eq (pe_callB call_len_seq (by rfl) ml PySem.boot_len (pa_cons (pv 1) pa_nil)) pe_int (nomark _))
          (pw_or1 (pt_cmpR op_ge (pe_callB (cr_max rfl) (by rfl) mx (by decide +kernel) (pa_cons (pv 1) pa_nil)) (pe_call GR hr (by rfl) DP.g DP.F.kp DP.b .nil pass0 (pa_cons (pv 0) pa_nil)) (nomark _)))))
        (pss_one (ps_ret pe_bl)) pss_nil)
      (pss_one (ps_ret (pe_cmpR op_eq (pe_lenSetA (by rfl) ml (by rfl) ms (pv 1)) (pe_callB call_len_seq (by rfl) ml PySem.boot_len (pa_cons (pv 1) pa_nil)) (nomark _))))), ?_⟩
    -- m < 1 or m > MOST_QUESTIONS
    refine ⟨.int m, rfl, m, 1, rfl, rfl, _, rfl, ite2 (fun e => ?_) (fun e => ?_)⟩
    · have e1 := of_decide_eq_true e
      refine iteT (q _ ⟨fun z => (Bool.noConfusion z), fun z => ?_⟩)
      have := z.1.1
      omega
    have e1 : ¬ m < 1 := fun z => e (decide_eq_true z)
    refine ⟨.int m, rfl, m, 5, rfl, rfl, _, rfl, ite2 (fun e => ?_) (fun e => ?_)⟩
    · have e2 := of_decide_eq_true e
      refine q _ ⟨fun z => (Bool.noConfusion z), fun z => ?_⟩
      have := z.1.2
      omega
    have e2 : ¬ 5 < m := fun z => e (decide_eq_true z)
    -- len(ok) == 0 or max(ok) >= two_to_the_power(m)
    refine ⟨.ref l, rfl, l, ns.map V.int, rfl, .inl hS, rfl, _, rfl, ite2 (fun e => ?_) (fun e => ?_)⟩
    · have e3 : ((ns.map V.int).length : Int) = 0 := V.int.inj (of_decide_eq_true e)
      rw [List.length_map] at e3
      refine iteT (q _ ⟨fun z => (Bool.noConfusion z), fun z => ?_⟩)
      exact absurd (List.eq_nil_of_length_eq_zero (by omega)) z.2.1
    have e3 : 0 < ns.length := by
      rcases Nat.eq_zero_or_pos ns.length with z | z
      · refine absurd (decide_eq_true ?_) e
        rw [List.length_map, z]
        rfl
      · exact z
    refine ⟨.ref l, rfl, l, ns, rfl, hS, e3, fun g hg hle => ?_⟩
    refine ⟨.int m, rfl, m, rfl, by omega, by omega, g, _, rfl, rfl, _, rfl, ite2 (fun e => ?_) (fun e => ?_)⟩
    · have e4 := of_decide_eq_true e
      refine q _ ⟨fun z => (Bool.noConfusion z), fun z => ?_⟩
      have := z.2.2.1 g hg
      omega
    have e4 : ¬ (2 : Int) ^ m.toNat ≤ g := fun z => e (decide_eq_true z)
    -- len(set(ok)) == len(ok)
    refine ⟨.ref l, rfl, l, ns, rfl, hS, by omega, fun n hn => ?_⟩
    refine ⟨.ref l, rfl, l, ns.map V.int, rfl, .inl hS, rfl, ?_⟩
    refine q _ ?_
    rw [List.length_map, decide_eq_true_iff]
    constructor
    · intro z
      have z1 : (n : Int) = ns.length := V.int.inj z
      refine ⟨⟨by omega, by omega⟩, fun y => ?_, fun x hx => ?_, hn.mp (by omega)⟩
      · rw [y] at e3
        cases e3
      · have := hle x hx
        omega
    · intro z
      rw [hn.mpr z.2.2.2]
/-! ### answers_are_right -/
def spAnsw : Sp := fun vs H Q _ => ∃ m a b : Int, vs = [.int m, .int a, .int b] ∧ 0 ≤ m ∧ m ≤ 60 ∧ 0 ≤ a ∧ 0 ≤ b ∧ ∀ r : Bool, (r = true ↔ OkA m a b) → Q (.bl r) H
theorem ok_answ {k : Nat} (D : Dn K mg "answers_are_right" sAnsw ["m", "a", "b"]) (DP : Dn K mg "two_to_the_power" sPow ["n"]) (mr : mg "range" = none) :
    FnOk P w K mg base CX0 (k + 1 + 1) D.f D.fd ["m", "a", "b"] spAnsw := by
  have GR : FnOk P w K mg base CX0 (k + 1) DP.f DP.fd ["n"] spPow := ok_pow DP mr
  refine D.F.ok scAnsw (fun vs H Q E h => ?_) (fun cdv A outer s H vs Q E hr h => ?_)
  · obtain ⟨m, a, b, rfl, _⟩ := h
    rfl
  · obtain ⟨m, a, b, rfl, h0, h1, ha, hb, q⟩ := h
    refine ⟨_, pss_one (ps_ret (pe_and (pe_cmpR op_lt (pv 1) (pe_call GR hr (by rfl) DP.g DP.F.kp DP.b .nil pass0 (pa_cons (pv 0) pa_nil)) (nomark _))
      (pe_one (pe_cmpR op_eq (pe_op op_and (pv 1) (pv 2)) (pv 2) (nomark _))))), ?_⟩
    refine ⟨.int a, rfl, .int m, rfl, m, rfl, h0, h1, a, _, rfl, rfl, _, rfl, ite2 (fun e => ?_) (fun e => ?_)⟩
    · have e1 := of_decide_eq_true e
      refine ⟨.int a, rfl, .int b, rfl, a, b, rfl, rfl, .int b, rfl, rfl, ?_⟩
      refine q _ ?_
      show decide (V.int (Builtin.bitAnd a b) = V.int b) = true ↔ OkA m a b
      rw [bitAnd_pp ha hb, decide_eq_true_iff]
      constructor
      · exact fun z => ⟨e1, V.int.inj z⟩
      · exact fun z => congrArg V.int z.2
    · refine q _ ⟨fun z => Bool.noConfusion z, fun z => ?_⟩
      exact absurd (decide_eq_true z.1) e
/-! ### all_is_right -/
def spAll (K : PySem.W.Frag) : Sp := fun vs H Q _ => ∃ (m a b : Int) (l : Addr) (ns : List Int), vs = [.int m, .int a, .int b, .ref l] ∧ SqL K H l (ns.map V.int) ∧ ns.length ≤ 40 ∧ 0 ≤ a ∧ 0 ≤ b ∧
  ∀ r : Bool, (r = true ↔ OkR m ns ∧ OkA m a b) → Q (.bl r) H
theorem ok_all {k : Nat} (D : Dn K mg "all_is_right" sAll ["m", "a", "b", "ok"]) (DP : Dn K mg "two_to_the_power" sPow ["n"]) (DU : Dn K mg "rules_are_right" sRules ["m", "ok"]) (DA : Dn K mg "answers_are_right" sAnsw ["m", "a", "b"])
    {tM : Tok} (gM : mg "MOST_QUESTIONS" = some (.int 5 tM)) (mr : mg "range" = none) (ml : mg "len" = none) (mx : mg "max" = none) (ms : mg "set" = none) :
    FnOk P w K mg base CX0 (k + 1 + 1 + 1) D.f D.fd ["m", "a", "b", "ok"] (spAll K) := by
  have GU : FnOk P w K mg base CX0 (k + 1 + 1) DU.f DU.fd ["m", "ok"] (spRules K) := ok_rules DU DP gM mr ml mx ms
  have GA : FnOk P w K mg base CX0 (k + 1 + 1) DA.f DA.fd ["m", "a", "b"] spAnsw := ok_answ DA DP mr
  refine D.F.ok scAll (fun vs H Q E h => ?_) (fun cdv A outer s H vs Q E hr h => ?_)
  · obtain ⟨m, a, b, l, ns, rfl, _⟩ := h
    rfl
  · obtain ⟨m, a, b, l, ns, rfl, hS, hl, ha, hb, q⟩ := h
    refine ⟨_, pss_one (ps_ret (pe_and (pe_call GU hr (by rfl) DU.g DU.F.kp DU.b .nil pass0 (pa_cons (pv 0) (pa_cons (pv 3) pa_nil)))
      (pe_one (pe_call GA hr (by rfl) DA.g DA.F.kp DA.b .nil pass0 (pa_cons (pv 0) (pa_cons (pv 1) (pa_cons (pv 2) pa_nil))))))), ?_⟩
    refine ⟨.int m, rfl, .ref l, rfl, m, l, ns, rfl, hS, hl, fun r hr1 => ⟨r, rfl, ?_⟩⟩
    cases r with
    | false =>
      refine iteF (q _ ⟨fun z => Bool.noConfusion z, fun z => ?_⟩)
      exact Bool.noConfusion (hr1.mpr z.1)
    | true =>
      have hR := hr1.mp rfl
      have := hR.1.1
      have := hR.1.2
      refine iteT ⟨.int m, rfl, .int a, rfl, .int b, rfl, m, a, b, rfl, by omega, by omega, ha, hb, fun r hr2 => ?_⟩
      exact q r ⟨fun z => ⟨hR, hr2.mp z⟩, fun z => hr2.mpr z.2⟩
/-! ### rows_that_have -/
def spHave (K : PySem.W.Frag) : Sp := fun vs H Q _ => ∃ (a b : Int) (l : Addr) (ns : List Int), vs = [.int a, .int b, .ref l] ∧ SqL K H l (ns.map V.int) ∧ ns.length ≤ 40 ∧ 0 ≤ a ∧ (∀ x ∈ ns, 0 ≤ x) ∧
  ∀ (H' : Hp) (p : Addr) (zs : List Int), Same H H' → H p = none → H' p = some (.lst (zs.map V.int)) → zs.Perm (having a b ns) → zs.Pairwise (· ≤ ·) → Q (.ref p) H'
theorem having_take {a b : Int} {ns : List Int} {i : Nat} {z : Int} (h : ns[i]? = some z) :
    having a b (ns.take (i + 1)) = having a b (ns.take i) ++ if land z a = b then [z] else [] := by
  unfold having
  rw [List.take_add_one, h, List.filter_append]
  congr 1
  show List.filter _ [z] = _
  by_cases c : land z a = b
  · rw [if_pos c]
    exact List.filter_cons_of_pos (decide_eq_true c)
  · rw [if_neg c]
    exact List.filter_cons_of_neg (by rw [decide_eq_true_iff]; exact c)
theorem ok_have {k : Nat} (D : Dn K mg "rows_that_have" sHave ["a", "b", "ok"]) (ms : mg "sorted" = none) : FnOk P w K mg base CX0 (k + 1) D.f D.fd ["a", "b", "ok"] (spHave K) := by
  refine D.F.ok scHave (fun vs H Q E h => ?_) (fun cdv A outer s H vs Q E hr h => ?_)
  · obtain ⟨a, b, l, ns, rfl, _⟩ := h
    rfl
  · obtain ⟨a, b, l, ns, rfl, hS, hl, ha, h0, q⟩ := h
    refine ⟨_, pss_one (ps_ret (pe_callB cr_sorted (by rfl) ms (by decide +kernel) (pa_cons
      (pe_lc (own := [("row", 3)]) (g := gName 3) rfl scHave.nd (pi_list (pv 2)) (blkOk_by (N := ["a", "b", "ok", "row"]) (sc := defScope sHave) (by decide +kernel))
        (fun _ _ _ _ _ => pg_name (i := 3) scHave.nd rfl (Or.inl rfl)) (fun _ _ _ _ _ => pts_one (pt_cmpR op_eq (pe_op op_and (pv 3) (pv 0)) (pv 1) (nomark _))) (fun _ _ _ _ _ => pv 3)) pa_nil))), ?_⟩
    refine ⟨.ref l, rfl, l, rfl, ⟨_, hS⟩, fun D nD => ?_⟩
    refine lc_list (K := K) (a := l) (xs := ns.map V.int) (fun i H' => Same H H' ∧ H' D = some (.lst ((having a b (ns.take i)).map V.int))) ⟨same_new nD, upd_same⟩ (fun i H' _ p => p.1.seq hS) ?_ ?_
    · rintro i y H' hi ⟨s1, eD⟩
      obtain ⟨z, hz, rfl⟩ : ∃ z, ns[i]? = some z ∧ y = V.int z := by
        rw [List.getElem?_map] at hi
        cases e : ns[i]? with
        | none =>
          rw [e] at hi
          cases hi
        | some z =>
          rw [e] at hi
          exact ⟨z, rfl, (Option.some.inj hi).symm⟩
      have z0 : 0 ≤ z := h0 z (List.mem_of_getElem? hz)
      have st := having_take (a := a) (b := b) hz
      refine ⟨rfl, .int z, rfl, .int a, rfl, z, a, rfl, rfl, .int b, rfl, rfl, _, rfl, ?_⟩
      have eb : Builtin.bitAnd z a = land z a := bitAnd_pp z0 ha
      refine ite2 (c := decide (V.int (Builtin.bitAnd z a) = V.int b) = true) (fun e => ?_) (fun e => ?_)
      · have e1 : land z a = b := eb.symm.trans (V.int.inj (of_decide_eq_true e))
        rw [if_pos e1] at st
        refine ⟨.int z, rfl, _, eD, ?_, fun c o e => ?_, ?_⟩
        · rw [List.length_map]
          refine small1000 (Nat.le_trans (List.length_filter_le _ _) ?_)
          rw [List.length_take]
          omega
        · rw [upd_ne (ne_of_none e nD)]
          exact s1 _ _ e
        · rw [st, List.map_append]
          exact upd_same
      · have e1 : ¬ land z a = b := fun z => e (decide_eq_true (congrArg V.int (eb.trans z)))
        rw [if_neg e1, List.append_nil] at st
        rw [st]
        exact ⟨s1, eD⟩
    · rintro H' ⟨s1, eD⟩
      rw [List.length_map, List.take_length] at eD
      have hlen : (having a b ns).length ≤ 40 := Nat.le_trans (List.length_filter_le _ _) hl
      refine ⟨D, having a b ns, rfl, .inl (.inl eD), by omega, fun zs p pm ri np => ?_⟩
      exact q _ p zs (s1.trans (same_new np)) (s1.free np) upd_same pm ri
/-! ### goes -/
def spGoes (K : PySem.W.Frag) : Sp := fun vs H Q _ => ∃ (m a b : Int) (l : Addr) (ns : List Int), vs = [.int m, .int a, .int b, .ref l] ∧ SqL K H l (ns.map V.int) ∧ ns.length ≤ 40 ∧
  0 ≤ a ∧ 0 ≤ b ∧ (∀ x ∈ ns, 0 ≤ x) ∧ ∀ (H' : Hp) (p : Addr), H' p = some (.lst ((PyKzi2.goes m a b ns).map V.int)) → Q (.ref p) H'
theorem ok_goes (D : Dn K mg "goes" sGoes ["m", "a", "b", "ok"]) (DP : Dn K mg "two_to_the_power" sPow ["n"]) (DU : Dn K mg "rules_are_right" sRules ["m", "ok"])
    (DA : Dn K mg "answers_are_right" sAnsw ["m", "a", "b"]) (DL : Dn K mg "all_is_right" sAll ["m", "a", "b", "ok"]) (DH : Dn K mg "rows_that_have" sHave ["a", "b", "ok"])
    {tM tW : Tok} (gM : mg "MOST_QUESTIONS" = some (.int 5 tM)) (gW : mg "WRONGLY_TOLD" = some (.int (-22) tW))
    (mr : mg "range" = none) (ml : mg "len" = none) (mx : mg "max" = none) (ms : mg "set" = none) (mo : mg "sorted" = none) :
    FnOk P w K mg base CX0 4 D.f D.fd ["m", "a", "b", "ok"] (spGoes K) := by
  have GL : FnOk P w K mg base CX0 3 DL.f DL.fd ["m", "a", "b", "ok"] (spAll K) := ok_all DL DP DU DA gM mr ml mx ms
  have GH : FnOk P w K mg base CX0 3 DH.f DH.fd ["a", "b", "ok"] (spHave K) := ok_have DH mo
  refine D.F.ok scGoes (fun vs H Q E h => ?_) (fun cdv A outer s H vs Q E hr h => ?_)
  · obtain ⟨m, a, b, l, ns, rfl, _⟩ := h
    rfl
  · obtain ⟨m, a, b, l, ns, rfl, hS, hl, ha, hb, h0, q⟩ := h
    refine ⟨_, pss_cons (ps_if (pt_not (pt_val (pe_call GL hr (by rfl) DL.g DL.F.kp DL.b .nil pass0 (pa_cons (pv 0) (pa_cons (pv 1) (pa_cons (pv 2) (pa_cons (pv 3) pa_nil)))))))
        (pss_one (ps_ret (pe_lst (pa_cons (pe_glob (v := .int (-22)) rfl gW ⟨_, rfl⟩) pa_nil)))) pss_nil)
      (pss_cons (ps_set (i := 4) scGoes.nd rfl (.inl rfl) (pe_call GH hr (by rfl) DH.g DH.F.kp DH.b .nil pass0 (pa_cons (pv 1) (pa_cons (pv 2) (pa_cons (pv 3) pa_nil)))))
      (pss_one (ps_ret (pe_op op_cat (pe_lst (pa_cons (pe_callB call_len_seq (by rfl) ml PySem.boot_len (pa_cons (pv 4) pa_nil)) pa_nil)) (pv 4))))), ?_⟩
    refine ⟨.int m, rfl, .int a, rfl, .int b, rfl, .ref l, rfl, m, a, b, l, ns, rfl, hS, hl, ha, hb, fun r hr1 => ⟨r, rfl, ?_⟩⟩
    cases r with
    | false =>
      refine iteT ?_
      refine ⟨by show 1 ≤ sizeLine; decide, fun p np => q _ p ?_⟩
      rw [goes_bad h0 ha hb (fun z => Bool.noConfusion (hr1.mpr z))]
      exact upd_same
    | true =>
      refine iteF ?_
      obtain ⟨hR, hA⟩ := hr1.mp rfl
      refine ⟨.int a, rfl, .int b, rfl, .ref l, rfl, a, b, l, ns, rfl, hS, hl, ha, h0, fun H1 p zs s1 np ep pm ri => ?_⟩
      have zl : zs.length ≤ 40 := by
        rw [pm.length_eq]
        exact Nat.le_trans (List.length_filter_le _ _) hl
      refine ⟨.ref p, rfl, p, _, rfl, .inl (.inl (.inl ep)), by show 1 ≤ sizeLine; decide, fun u nu => ?_⟩
      have ep2 : (upd H1 u (.lst [.int ((zs.map V.int).length : Nat)])) p = some (.lst (zs.map V.int)) := by
        rw [upd_ne (ne_of_none ep nu)]
        exact ep
      refine ⟨.ref p, rfl, u, p, _, _, rfl, rfl, upd_same, ep2, ?_, fun v nv => q _ v ?_⟩
      · rw [List.length_map]
        exact Nat.le_of_lt (small1000 (by simp only [List.length_cons, List.length_nil]; omega))
      · rw [goes_good h0 ha hb hR hA pm ri, upd_same, List.length_map]
        rfl
end
theorem all_mk {P : Program} {w : World} {K : PySem.W.Frag} {h : Heap} {mg : Str → Option Value} {fa f1 f2 f3 f4 f5 f6 : Addr} (X : K.In h) (G : h.Ns mainGlobals mg) (hfa : mg "goes" = some (.ref fa))
    {od1 an1 od2 an2 od3 an3 od4 an4 od5 an5 od6 an6 : Option Addr} {sl1 sl2 sl3 sl4 sl5 sl6 : Array (Option Value)}
    {oc1 kV1 dc1 pm1 cd1 ct1 oc2 kV2 dc2 pm2 cd2 ct2 oc3 kV3 dc3 pm3 cd3 ct3 oc4 kV4 dc4 pm4 cd4 ct4 oc5 kV5 dc5 pm5 cd5 ct5 oc6 kV6 dc6 pm6 cd6 ct6 : Value}
    {tk1 tk2 : Tok}
    (a1 : PySem.W.nsIn K mainGlobals "two_to_the_power" = some (some (.ref f1))) (l1 : K.lookup f1 = some ⟨oc1, od1, .func (PySem.W.fnOf "two_to_the_power" "two_to_the_power" (defArgs sPow) (defBody sPow) (defScope sPow) .none kV1 dc1 pm1 an1 cd1 ct1), sl1⟩)
    (c1 : PySem.W.codeIn K cd1 "two_to_the_power" = true) (k1 : PySem.W.keepIn K (.ref f1) = true)
    (a2 : PySem.W.nsIn K mainGlobals "rules_are_right" = some (some (.ref f2))) (l2 : K.lookup f2 = some ⟨oc2, od2, .func (PySem.W.fnOf "rules_are_right" "rules_are_right" (defArgs sRules) (defBody sRules) (defScope sRules) .none kV2 dc2 pm2 an2 cd2 ct2), sl2⟩)
    (c2 : PySem.W.codeIn K cd2 "rules_are_right" = true) (k2 : PySem.W.keepIn K (.ref f2) = true)
    (a3 : PySem.W.nsIn K mainGlobals "answers_are_right" = some (some (.ref f3))) (l3 : K.lookup f3 = some ⟨oc3, od3, .func (PySem.W.fnOf "answers_are_right" "answers_are_right" (defArgs sAnsw) (defBody sAnsw) (defScope sAnsw) .none kV3 dc3 pm3 an3 cd3 ct3), sl3⟩)
    (c3 : PySem.W.codeIn K cd3 "answers_are_right" = true) (k3 : PySem.W.keepIn K (.ref f3) = true)
    (a4 : PySem.W.nsIn K mainGlobals "all_is_right" = some (some (.ref f4))) (l4 : K.lookup f4 = some ⟨oc4, od4, .func (PySem.W.fnOf "all_is_right" "all_is_right" (defArgs sAll) (defBody sAll) (defScope sAll) .none kV4 dc4 pm4 an4 cd4 ct4), sl4⟩)
    (c4 : PySem.W.codeIn K cd4 "all_is_right" = true) (k4 : PySem.W.keepIn K (.ref f4) = true)
    (a5 : PySem.W.nsIn K mainGlobals "rows_that_have" = some (some (.ref f5))) (l5 : K.lookup f5 = some ⟨oc5, od5, .func (PySem.W.fnOf "rows_that_have" "rows_that_have" (defArgs sHave) (defBody sHave) (defScope sHave) .none kV5 dc5 pm5 an5 cd5 ct5), sl5⟩)
    (c5 : PySem.W.codeIn K cd5 "rows_that_have" = true) (k5 : PySem.W.keepIn K (.ref f5) = true)
    (a6 : PySem.W.nsIn K mainGlobals "goes" = some (some (.ref f6))) (l6 : K.lookup f6 = some ⟨oc6, od6, .func (PySem.W.fnOf "goes" "goes" (defArgs sGoes) (defBody sGoes) (defScope sGoes) .none kV6 dc6 pm6 an6 cd6 ct6), sl6⟩)
    (c6 : PySem.W.codeIn K cd6 "goes" = true) (k6 : PySem.W.keepIn K (.ref f6) = true)
    (g1 : PySem.W.nsIn K mainGlobals "MOST_QUESTIONS" = some (some (.int 5 tk1)))
    (g2 : PySem.W.nsIn K mainGlobals "WRONGLY_TOLD" = some (some (.int (-22) tk2)))
    (z1 : PySem.W.nsIn K mainGlobals "range" = some none) (z2 : PySem.W.nsIn K mainGlobals "len" = some none) (z3 : PySem.W.nsIn K mainGlobals "max" = some none) (z4 : PySem.W.nsIn K mainGlobals "set" = some none) (z5 : PySem.W.nsIn K mainGlobals "sorted" = some none) :
    ∃ fd : FuncData, (∀ (s : Shared) (us : List Value), us.length = (["m", "a", "b", "ok"] : List Str).length → BindsTo s fd ⟨us, []⟩ ((["m", "a", "b", "ok"] : List Str).zip us)) ∧
      ∀ base : Heap, K.In base → base.Ns mainGlobals mg → FnOk P w K mg base CX0 4 fa fd ["m", "a", "b", "ok"] (spGoes K) := by
  have e := hfa.symm.trans (PySem.W.mg_of X G a6)
  cases e
  have F1 := fun_mk (st := sPow) l1 c1 k1
  have D1 : Dn K mg "two_to_the_power" sPow ["n"] := ⟨_, _, F1, F1.binds (ps := ["n"]) fun _ _ _ _ _ _ us hl => match us, hl with | [_], _ => rfl, PySem.W.mg_of X G a1⟩
  have F2 := fun_mk (st := sRules) l2 c2 k2
  have D2 : Dn K mg "rules_are_right" sRules ["m", "ok"] := ⟨_, _, F2, F2.binds (ps := ["m", "ok"]) fun _ _ _ _ _ _ us hl => match us, hl with | [_, _], _ => rfl, PySem.W.mg_of X G a2⟩
  have F3 := fun_mk (st := sAnsw) l3 c3 k3
  have D3 : Dn K mg "answers_are_right" sAnsw ["m", "a", "b"] := ⟨_, _, F3, F3.binds (ps := ["m", "a", "b"]) fun _ _ _ _ _ _ us hl => match us, hl with | [_, _, _], _ => rfl, PySem.W.mg_of X G a3⟩
  have F4 := fun_mk (st := sAll) l4 c4 k4
  have D4 : Dn K mg "all_is_right" sAll ["m", "a", "b", "ok"] := ⟨_, _, F4, F4.binds (ps := ["m", "a", "b", "ok"]) fun _ _ _ _ _ _ us hl => match us, hl with | [_, _, _, _], _ => rfl, PySem.W.mg_of X G a4⟩
  have F5 := fun_mk (st := sHave) l5 c5 k5
  have D5 : Dn K mg "rows_that_have" sHave ["a", "b", "ok"] := ⟨_, _, F5, F5.binds (ps := ["a", "b", "ok"]) fun _ _ _ _ _ _ us hl => match us, hl with | [_, _, _], _ => rfl, PySem.W.mg_of X G a5⟩
  have F6 := fun_mk (st := sGoes) l6 c6 k6
  let D6 : Dn K mg "goes" sGoes ["m", "a", "b", "ok"] := ⟨_, _, F6, F6.binds (ps := ["m", "a", "b", "ok"]) fun _ _ _ _ _ _ us hl => match us, hl with | [_, _, _, _], _ => rfl, PySem.W.mg_of X G a6⟩
  have v1 := PySem.W.mg_of X G g1
  have v2 := PySem.W.mg_of X G g2
  have n1 := PySem.W.mg_none_of X G z1
  have n2 := PySem.W.mg_none_of X G z2
  have n3 := PySem.W.mg_none_of X G z3
  have n4 := PySem.W.mg_none_of X G z4
  have n5 := PySem.W.mg_none_of X G z5
  exact ⟨PySem.W.fnOf "goes" "goes" (defArgs sGoes) (defBody sGoes) (defScope sGoes) .none kV6 dc6 pm6 an6 cd6 ct6,
    fun s us hu => match us, hu with | [_, _, _, _], _ => .of_eq rfl, fun base _ _ => ok_goes D6 D1 D2 D3 D4 D5 v1 v2 n1 n2 n3 n4 n5⟩
end Cl
open PySem PySem.W PyProof.Rows
set_option maxRecDepth 100000 in
set_option maxHeartbeats 8000000 in
theorem PySem.Challenge.cw_clashrules_s01_goes_holds : PySem.Challenge.rw_clashrules_s01_goes.Holds := by
  w_on; k_headS; (case hw => exact ⟨[.int 1, .int 0, .int 0, .list [.int 0]], by decide +kernel, by decide +kernel⟩)
  k_fillS
  refine L2.walk_specK (r := PySem.Challenge.rw_clashrules_s01_goes) (k := 4) (CX := L2.CX0) (ps := ["m", "a", "b", "ok"]) (sp := Cl.spGoes) (by decide +kernel) rfl rfl ⟨rfl, by decide, by decide⟩ (fun w h Y => PySem.W.kIn_of Y) ?F ?S (fun _ _ _ _ z => z)
  case F =>
    intro w mg fa h Y KX G hmg
    refine' Cl.all_mk KX G hmg ?a1 ?l1 ?c1 ?k1 ?a2 ?l2 ?c2 ?k2 ?a3 ?l3 ?c3 ?k3 ?a4 ?l4 ?c4 ?k4 ?a5 ?l5 ?c5 ?k5 ?a6 ?l6 ?c6 ?k6 ?g1 ?g2 ?z1 ?z2 ?z3 ?z4 ?z5
    (case a1 => k_is)
    (case l1 => k_is)
    (case c1 => k_is)
    (case k1 => k_is)
    (case a2 => k_is)
    (case l2 => k_is)
    (case c2 => k_is)
    (case k2 => k_is)
    (case a3 => k_is)
    (case l3 => k_is)
    (case c3 => k_is)
    (case k3 => k_is)
    (case a4 => k_is)
    (case l4 => k_is)
    (case c4 => k_is)
    (case k4 => k_is)
    (case a5 => k_is)
    (case l5 => k_is)
    (case c5 => k_is)
    (case k5 => k_is)
    (case a6 => k_is)
    (case l6 => k_is)
    (case c6 => k_is)
    (case k6 => k_is)
    (case g1 => k_is)
    (case g2 => k_is)
    (case z1 => k_is)
    (case z2 => k_is)
    (case z3 => k_is)
    (case z4 => k_is)
    (case z5 => k_is)
  case S =>
    intro K H xs a hO hwi hask hx
    obtain ⟨m, u, v, ns, e⟩ := a
    cases hx with
    | cons h1 hx =>
      cases hx with
      | cons h2 hx =>
        cases hx with
        | cons h3 hx =>
          cases hx with
          | cons h4 hx =>
            cases hx
            cases h1
            cases h2
            cases h3
            cases h4 with
            | lst hs ha =>
              have e := L2.ints_dw ns _ ha
              subst e
              have w : (Codec.inInt 0 4294967295 m && (Codec.inInt 0 4294967295 u && (Codec.inInt 0 4294967295 v && ((Codec.inLen 0 40 ns && ns.all (Codec.inInt 0 255)) && true)))) = true := hwi
              simp only [Bool.and_eq_true] at w
              obtain ⟨w1, w2, w3, ⟨w4, w5⟩, _⟩ := w
              have i1 := Codec.inInt_iff.mp w1
              have i2 := Codec.inInt_iff.mp w2
              have i3 := Codec.inInt_iff.mp w3
              have i4 := (Codec.inNat_iff.mp w4).2
              have i5 : ∀ x ∈ ns, 0 ≤ x := fun x hx => (Codec.inInt_iff.mp (List.all_eq_true.mp w5 x hx)).1
              exact ⟨m, u, v, _, ns, rfl, hs, i4, i2.1, i3.1, i5, fun H' p hp => .lst (L2.SqL.of hp) (L2.dw_ints _)⟩
#print axioms PySem.Challenge.cw_clashrules_s01_goes_holds
