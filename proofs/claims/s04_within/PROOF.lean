import PyProof.Rows.All
import Wide.All
import OpenK.AllK
import Wide.FinOn
import HandS.ForSpec
import HandS.Comp
import HandS.SortKw
import KE.OsGo
import Open.SpecLaws
import PySem.Challenge.RW_clashrules_s04_within
set_option Elab.async false
set_option maxRecDepth 100000
set_option maxHeartbeats 2000000
namespace Cl
open Kzi1 Kzi2

theorem bit_test (r q : Nat) : bit r q = r.testBit q := by
  rw [Nat.testBit_eq_decide_div_mod_eq]
  unfold bit
  by_cases h : r / 2 ^ q % 2 = 1
  · rw [h]; rfl
  · rw [decide_eq_false h]
    exact beq_false_of_ne h

theorem tb_lt {a m q : Nat} (h : a < 2 ^ m) (hq : a.testBit q = true) : q < m := by
  rcases Nat.lt_or_ge q m with c | c
  · exact c
  · have := Nat.testBit_lt_two_pow (Nat.lt_of_lt_of_le h (Nat.pow_le_pow_right (by decide) c))
    rw [this] at hq
    cases hq

theorem okSome_iff (m a b : Nat) : okSome m a b = true ↔ a < 2 ^ m ∧ a &&& b = b := by
  unfold okSome
  rw [Bool.and_eq_true, Bool.and_eq_true, decide_eq_true_iff, decide_eq_true_iff, List.all_eq_true]
  constructor
  · rintro ⟨⟨ha, hb⟩, h⟩
    refine ⟨ha, Nat.eq_of_testBit_eq fun q => ?_⟩
    rw [Nat.testBit_and]
    cases e : b.testBit q with
    | false => rw [Bool.and_false]
    | true =>
      have := h q (List.mem_range.mpr (tb_lt hb e))
      rw [bit_test, bit_test, e] at this
      simpa using this
  · rintro ⟨ha, e⟩
    refine ⟨⟨ha, ?_⟩, fun q _ => ?_⟩
    · rw [← e]
      exact Nat.lt_of_le_of_lt Nat.and_le_left ha
    · rw [bit_test, bit_test, ← e, Nat.testBit_and]
      cases a.testBit q <;> simp

theorem has_iff {m a b r : Nat} (ha : a < 2 ^ m) (hb : a &&& b = b) : has m a b r = true ↔ r &&& a = b := by
  unfold has
  rw [List.all_eq_true]
  constructor
  · intro h
    refine Nat.eq_of_testBit_eq fun q => ?_
    rw [Nat.testBit_and]
    cases e : a.testBit q with
    | false =>
      have : b.testBit q = false := by rw [← hb, Nat.testBit_and, e, Bool.false_and]
      rw [this, Bool.and_false]
    | true =>
      have := h q (List.mem_range.mpr (tb_lt ha e))
      rw [bit_test, bit_test, bit_test, e] at this
      simpa using this
  · intro e q _
    rw [bit_test, bit_test, bit_test, ← e, Nat.testBit_and]
    cases a.testBit q <;> simp

theorem distinct_iff : ∀ l : List Nat, distinct l = true ↔ l.Nodup
  | [] => by simp [distinct]
  | x :: l => by
    unfold distinct
    rw [Bool.and_eq_true, distinct_iff l, List.nodup_cons]
    simp

theorem okRules_iff (m : Nat) (ok : List Nat) : okRules m ok = true ↔ (1 ≤ m ∧ m ≤ 5) ∧ ok ≠ [] ∧ (∀ r ∈ ok, r < 2 ^ m) ∧ ok.Nodup := by
  unfold okRules
  simp only [Bool.and_eq_true, decide_eq_true_iff, distinct_iff, List.all_eq_true, Bool.not_eq_true', List.isEmpty_eq_false_iff]
  constructor
  · rintro ⟨⟨⟨h1, h2⟩, h3⟩, h4⟩
    exact ⟨h1, h2, h3, h4⟩
  · rintro ⟨h1, h2, h3, h4⟩
    exact ⟨⟨⟨h1, h2⟩, h3⟩, h4⟩

theorem with_mem {m : Nat} {ok : List Nat} {a b r : Nat} : r ∈ with_ m ok a b ↔ r < 2 ^ m ∧ r ∈ ok ∧ has m a b r = true := by
  unfold with_ stand rows
  simp only [List.mem_filter, List.mem_range, List.contains_iff_mem]
  exact and_assoc

theorem with_rising (m : Nat) (ok : List Nat) (a b : Nat) : (with_ m ok a b).Pairwise (· < ·) := by
  unfold with_ stand rows
  exact (List.pairwise_lt_range.filter _).filter _

/-- two strictly rising lists with the same members are one -/
theorem rising_ext : ∀ {l k : List Nat}, l.Pairwise (· < ·) → k.Pairwise (· < ·) → (∀ x, x ∈ l ↔ x ∈ k) → l = k
  | [], [], _, _, _ => rfl
  | [], y :: k, _, _, h => by
    have := (h y).mpr (List.mem_cons_self ..)
    cases this
  | x :: l, [], _, _, h => by
    have := (h x).mp (List.mem_cons_self ..)
    cases this
  | x :: l, y :: k, hl, hk, h => by
    rw [List.pairwise_cons] at hl hk
    have e : x = y := by
      have h1 := (h x).mp (List.mem_cons_self ..)
      have h2 := (h y).mpr (List.mem_cons_self ..)
      rw [List.mem_cons] at h1 h2
      rcases h1 with h1 | h1
      · exact h1
      · rcases h2 with h2 | h2
        · exact h2.symm
        · have a1 := hl.1 _ h2
          have a2 := hk.1 _ h1
          omega
    subst e
    congr 1
    refine rising_ext hl.2 hk.2 fun z => ?_
    constructor
    · intro hz
      have a1 := hl.1 _ hz
      have := (h z).mp (List.mem_cons_of_mem _ hz)
      rw [List.mem_cons] at this
      rcases this with e | e
      · omega
      · exact e
    · intro hz
      have a1 := hk.1 _ hz
      have := (h z).mpr (List.mem_cons_of_mem _ hz)
      rw [List.mem_cons] at this
      rcases this with e | e
      · omega
      · exact e
end Cl
namespace Cl
open Kzi1 Kzi2

/-- a & b of two numbers that are not below 0, as a number -/
def land (x y : Int) : Int := ((x.toNat &&& y.toNat : Nat) : Int)
def OkR (m : Int) (ns : List Int) : Prop := (1 ≤ m ∧ m ≤ 5) ∧ ns ≠ [] ∧ (∀ x ∈ ns, x < 2 ^ m.toNat) ∧ ns.Nodup
def OkA (m a b : Int) : Prop := a < 2 ^ m.toNat ∧ land a b = b

theorem pow_cast (k : Nat) : ((2 ^ k : Nat) : Int) = 2 ^ k := by
  rw [Int.natCast_pow]; rfl
theorem lt_pow_nat {x : Int} (hx : 0 ≤ x) (k : Nat) : x.toNat < 2 ^ k ↔ x < 2 ^ k := by
  have e := pow_cast k
  constructor
  · intro h
    have : (x.toNat : Int) < ((2 ^ k : Nat) : Int) := Int.ofNat_lt.mpr h
    rw [e] at this
    omega
  · intro h
    have : (x.toNat : Int) < ((2 ^ k : Nat) : Int) := by rw [e]; omega
    exact Int.ofNat_lt.mp this

theorem nodup_nats {ns : List Int} (h0 : ∀ x ∈ ns, 0 ≤ x) : (ns.map Int.toNat).Nodup ↔ ns.Nodup := by
  unfold List.Nodup
  rw [List.pairwise_map]
  constructor
  · intro h
    exact h.imp fun {a b} hab e => hab (by rw [e])
  · intro h
    exact h.imp_of_mem fun {a b} ha hb hab e => hab (by
      have h1 := h0 a ha
      have h2 := h0 b hb
      omega)

theorem okR_spec {m : Int} {ns : List Int} (h0 : ∀ x ∈ ns, 0 ≤ x) : okRules m.toNat (Kzi2Neutral.natsOf ns) = true ↔ OkR m ns := by
  rw [okRules_iff]
  unfold OkR Kzi2Neutral.natsOf
  rw [nodup_nats h0]
  have e1 : (1 ≤ m.toNat ∧ m.toNat ≤ 5) ↔ (1 ≤ m ∧ m ≤ 5) := by omega
  have e2 : ns.map Int.toNat ≠ [] ↔ ns ≠ [] := by
    rw [ne_eq, List.map_eq_nil_iff]
  have e3 : (∀ r ∈ ns.map Int.toNat, r < 2 ^ m.toNat) ↔ ∀ x ∈ ns, x < 2 ^ m.toNat := by
    rw [List.forall_mem_map]
    constructor
    · intro h x hx
      exact (lt_pow_nat (h0 x hx) _).mp (h x hx)
    · intro h x hx
      exact (lt_pow_nat (h0 x hx) _).mpr (h x hx)
  rw [e1, e2, e3]

theorem land_nat {a b : Int} (hb : 0 ≤ b) : land a b = b ↔ a.toNat &&& b.toNat = b.toNat := by
  unfold land
  constructor
  · intro h; omega
  · intro h; rw [h]; omega
theorem okA_spec {m a b : Int} (ha : 0 ≤ a) (hb : 0 ≤ b) : okSome m.toNat a.toNat b.toNat = true ↔ OkA m a b := by
  rw [okSome_iff, lt_pow_nat ha, ← land_nat hb]
  rfl

/-- the rows that have the answers, in the order in which they stand -/
def having (a b : Int) (ns : List Int) : List Int := ns.filter fun r => decide (land r a = b)

theorem cast_back {zs : List Int} (z0 : ∀ x ∈ zs, 0 ≤ x) : zs = zs.map ((fun (x : Nat) => (x : Int)) ∘ Int.toNat) := by
  conv => lhs; rw [← List.map_id zs]
  refine List.map_congr_left fun x hx => ?_
  have h := z0 x hx
  show x = (x.toNat : Int)
  omega
theorem having_spec {m a b : Int} {ns zs : List Int} (h0 : ∀ x ∈ ns, 0 ≤ x) (ha : 0 ≤ a) (hb : 0 ≤ b) (hR : OkR m ns) (hA : OkA m a b)
    (hp : zs.Perm (having a b ns)) (hs : zs.Pairwise (· ≤ ·)) : zs = Kzi2Neutral.ints (with_ m.toNat (Kzi2Neutral.natsOf ns) a.toNat b.toNat) := by
  have hA' := (okSome_iff _ _ _).mp ((okA_spec (m := m) ha hb).mpr hA)
  have z0 : ∀ x ∈ zs, 0 ≤ x := fun x hx => h0 x (List.mem_filter.mp ((hp.mem_iff).mp hx)).1
  have znd : zs.Nodup := hp.nodup_iff.mpr (hR.2.2.2.filter _)
  have e : zs.map Int.toNat = with_ m.toNat (Kzi2Neutral.natsOf ns) a.toNat b.toNat := by
    refine rising_ext ?_ (with_rising _ _ _ _) fun r => ?_
    · rw [List.pairwise_map]
      refine (hs.and znd).imp_of_mem fun {x y} hx hy h => ?_
      have h1 := z0 x hx
      have h2 := z0 y hy
      have h3 := h.1
      have h4 := h.2
      omega
    · rw [with_mem]
      constructor
      · intro hr
        obtain ⟨x, hx, rfl⟩ := List.mem_map.mp hr
        obtain ⟨hx1, hx2⟩ := List.mem_filter.mp ((hp.mem_iff).mp hx)
        refine ⟨(lt_pow_nat (h0 x hx1) _).mpr (hR.2.2.1 x hx1), List.mem_map_of_mem hx1, (has_iff hA'.1 hA'.2).mpr ?_⟩
        have := of_decide_eq_true hx2
        unfold land at this
        omega
      · rintro ⟨h1, h2, h3⟩
        obtain ⟨x, hx, rfl⟩ := List.mem_map.mp h2
        refine List.mem_map_of_mem ((hp.mem_iff).mpr (List.mem_filter.mpr ⟨hx, decide_eq_true ?_⟩))
        have := (has_iff hA'.1 hA'.2).mp h3
        unfold land
        omega
  unfold Kzi2Neutral.ints
  rw [← e, List.map_map]
  exact cast_back z0

theorem goes_bad {m a b : Int} {ns : List Int} (h0 : ∀ x ∈ ns, 0 ≤ x) (ha : 0 ≤ a) (hb : 0 ≤ b) (h : ¬ (OkR m ns ∧ OkA m a b)) : PyKzi2.goes m a b ns = [-22] := by
  have hc : okRules m.toNat (Kzi2Neutral.natsOf ns) = false ∨ okSome m.toNat a.toNat b.toNat = false := by
    rw [← Bool.not_eq_true, ← Bool.not_eq_true, okR_spec h0, okA_spec ha hb]
    exact Classical.not_and_iff_not_or_not.mp h
  unfold PyKzi2.goes Kzi2Neutral.f Kzi2Neutral.callOf Kzi2.answer
  simp only [if_pos hc]
  rfl
theorem goes_good {m a b : Int} {ns zs : List Int} (h0 : ∀ x ∈ ns, 0 ≤ x) (ha : 0 ≤ a) (hb : 0 ≤ b) (hR : OkR m ns) (hA : OkA m a b)
    (hp : zs.Perm (having a b ns)) (hs : zs.Pairwise (· ≤ ·)) : PyKzi2.goes m a b ns = (zs.length : Int) :: zs := by
  have hc : ¬ (okRules m.toNat (Kzi2Neutral.natsOf ns) = false ∨ okSome m.toNat a.toNat b.toNat = false) := by
    rw [← Bool.not_eq_true, ← Bool.not_eq_true, okR_spec h0, okA_spec ha hb]
    exact fun z => z.elim (fun q => q hR) fun q => q hA
  have e := having_spec h0 ha hb hR hA hp hs
  unfold PyKzi2.goes Kzi2Neutral.f Kzi2Neutral.callOf Kzi2.answer
  simp only [if_neg hc]
  rw [e]
  unfold told Kzi2Neutral.ints
  rw [List.length_map]
end Cl
namespace Cl
open Kzi1 Kzi2

/-! ### a row told question by question -/
theorem row_succ (m : Nat) (p : Nat → Bool) : row (m + 1) p = row m p + if p m then 2 ^ m else 0 := by
  unfold row sum
  rw [List.range_succ, List.map_append, List.foldl_append]
  rfl
theorem row_lt (m : Nat) (p : Nat → Bool) : row m p < 2 ^ m := by
  induction m with
  | zero => exact Nat.zero_lt_one
  | succ m ih =>
    rw [row_succ, Nat.pow_succ]
    by_cases h : p m = true
    · rw [if_pos h]; omega
    · rw [if_neg h]; omega
theorem row_bit (m : Nat) (p : Nat → Bool) (q : Nat) : (row m p).testBit q = (decide (q < m) && p q) := by
  induction m with
  | zero =>
    show Nat.testBit 0 q = _
    rw [Nat.zero_testBit, decide_eq_false (Nat.not_lt_zero q), Bool.false_and]
  | succ m ih =>
    rw [row_succ]
    have hl := row_lt m p
    by_cases h : p m = true
    · rw [if_pos h, Nat.add_comm]
      rcases Nat.lt_trichotomy q m with c | c | c
      · rw [Nat.testBit_two_pow_add_gt c, ih, decide_eq_true c, decide_eq_true (by omega : q < m + 1)]
      · subst c
        rw [Nat.testBit_two_pow_add_eq, Nat.testBit_lt_two_pow hl, decide_eq_true (Nat.lt_succ_self q), h]
        rfl
      · have : (2 ^ m + row m p).testBit q = false := Nat.testBit_lt_two_pow (by
          have : 2 ^ (m + 1) ≤ 2 ^ q := Nat.pow_le_pow_right (by decide) c
          rw [Nat.pow_succ] at this
          omega)
        rw [this, decide_eq_false (by omega), Bool.false_and]
    · rw [if_neg h, Nat.add_zero, ih]
      rcases Nat.lt_trichotomy q m with c | c | c
      · rw [decide_eq_true c, decide_eq_true (by omega : q < m + 1)]
      · subst c
        rw [decide_eq_false (Nat.lt_irrefl q), decide_eq_true (Nat.lt_succ_self q), Bool.not_eq_true] at *
        rw [h]
        rfl
      · rw [decide_eq_false (by omega), decide_eq_false (by omega)]

theorem less_bit {m x q p : Nat} (hx : x < 2 ^ m) : (less m x q).testBit p = (x.testBit p && p != q) := by
  unfold less
  rw [row_bit, bit_test]
  cases e : x.testBit p with
  | false => simp
  | true => rw [decide_eq_true (tb_lt hx e), Bool.true_and]
theorem less_lt (m x q : Nat) : less m x q < 2 ^ m := row_lt _ _

/-! ### going together -/
theorem goes_iff {m : Nat} {ok : List Nat} {a b : Nat} (hk : ∀ r ∈ ok, r < 2 ^ m) (ha : a < 2 ^ m) (hb : a &&& b = b) : Kzi2.goes m ok a b = true ↔ ∃ r ∈ ok, r &&& a = b := by
  unfold Kzi2.goes
  rw [Bool.not_eq_true', List.isEmpty_eq_false_iff_exists_mem]
  constructor
  · rintro ⟨r, hr⟩
    obtain ⟨_, h2, h3⟩ := with_mem.mp hr
    exact ⟨r, h2, (has_iff ha hb).mp h3⟩
  · rintro ⟨r, h2, h3⟩
    exact ⟨r, with_mem.mpr ⟨hk r h2, h2, (has_iff ha hb).mpr h3⟩⟩
theorem less_sub {m a b q : Nat} (ha : a < 2 ^ m) (hb : a &&& b = b) : less m a q &&& less m b q = less m b q := by
  have hb' : b < 2 ^ m := by
    rw [← hb]
    exact Nat.lt_of_le_of_lt Nat.and_le_left ha
  refine Nat.eq_of_testBit_eq fun p => ?_
  rw [Nat.testBit_and, less_bit ha, less_bit hb', ← hb, Nat.testBit_and]
  cases a.testBit p <;> cases b.testBit p <;> cases p != q <;> rfl
/-- they go together: some row has them (a, b as they stand) -/
def Go (ok : List Nat) (a b : Nat) : Prop := ∃ r ∈ ok, r &&& a = b
theorem clash_iff {m : Nat} {ok : List Nat} {a b : Nat} (hk : ∀ r ∈ ok, r < 2 ^ m) : clash m ok a b = true ↔
    (a < 2 ^ m ∧ a &&& b = b) ∧ ¬ Go ok a b ∧ ∀ q, q < m → a.testBit q = true → Go ok (less m a q) (less m b q) := by
  unfold clash
  rw [Bool.and_eq_true, Bool.and_eq_true, okSome_iff, List.all_eq_true]
  constructor
  · rintro ⟨⟨⟨ha, hb⟩, h1⟩, h2⟩
    refine ⟨⟨ha, hb⟩, fun g => ?_, fun q hq hbit => ?_⟩
    · rw [(goes_iff hk ha hb).mpr g] at h1
      cases h1
    · have := h2 q (List.mem_range.mpr hq)
      rw [bit_test, hbit, Bool.not_true, Bool.false_or] at this
      exact (goes_iff hk (less_lt _ _ _) (less_sub ha hb)).mp this
  · rintro ⟨⟨ha, hb⟩, h1, h2⟩
    refine ⟨⟨⟨ha, hb⟩, ?_⟩, fun q hq => ?_⟩
    · rw [Bool.not_eq_true', ← Bool.not_eq_true]
      exact fun z => h1 ((goes_iff hk ha hb).mp z)
    · rw [bit_test]
      cases e : a.testBit q with
      | false => rfl
      | true =>
        rw [Bool.not_true, Bool.false_or]
        exact (goes_iff hk (less_lt _ _ _) (less_sub ha hb)).mpr (h2 q (List.mem_range.mp hq) e)

/-! ### the clashes: which, and in which order -/
theorem clashes_mem {m : Nat} {ok : List Nat} {c : Nat × Nat} : c ∈ Kzi2.clashes m ok ↔ c.1 < 2 ^ m ∧ c.2 < 2 ^ m ∧ clash m ok c.1 c.2 = true := by
  unfold Kzi2.clashes rows
  rw [List.mem_flatMap]
  constructor
  · rintro ⟨a, ha, h⟩
    obtain ⟨b, hb, rfl⟩ := List.mem_map.mp h
    obtain ⟨h1, h2⟩ := List.mem_filter.mp hb
    exact ⟨List.mem_range.mp ha, List.mem_range.mp h1, h2⟩
  · rintro ⟨h1, h2, h3⟩
    exact ⟨c.1, List.mem_range.mpr h1, List.mem_map.mpr ⟨c.2, List.mem_filter.mpr ⟨List.mem_range.mpr h2, h3⟩, rfl⟩⟩
def lexLt (c d : Nat × Nat) : Prop := c.1 < d.1 ∨ (c.1 = d.1 ∧ c.2 < d.2)
theorem clashes_rising (m : Nat) (ok : List Nat) : (Kzi2.clashes m ok).Pairwise lexLt := by
  unfold Kzi2.clashes rows
  rw [List.pairwise_flatMap]
  constructor
  · intro a _
    rw [List.pairwise_map]
    exact (List.pairwise_lt_range.filter _).imp fun h => .inr ⟨rfl, h⟩
  · refine List.pairwise_lt_range.imp fun {a a'} h c hc d hd => ?_
    obtain ⟨b, _, rfl⟩ := List.mem_map.mp hc
    obtain ⟨b', _, rfl⟩ := List.mem_map.mp hd
    exact .inl h
/-- two rising lists of pairs with the same members are one -/
theorem lex_ext : ∀ {l k : List (Nat × Nat)}, l.Pairwise lexLt → k.Pairwise lexLt → (∀ x, x ∈ l ↔ x ∈ k) → l = k
  | [], [], _, _, _ => rfl
  | [], y :: k, _, _, h => by
    have := (h y).mpr (List.mem_cons_self ..)
    cases this
  | x :: l, [], _, _, h => by
    have := (h x).mp (List.mem_cons_self ..)
    cases this
  | x :: l, y :: k, hl, hk, h => by
    rw [List.pairwise_cons] at hl hk
    have asym : ∀ {c d : Nat × Nat}, lexLt c d → lexLt d c → False := fun {c d} h1 h2 => by
      unfold lexLt at h1 h2
      omega
    have irr : ∀ {c : Nat × Nat}, ¬ lexLt c c := fun {c} h1 => asym h1 h1
    have e : x = y := by
      rcases List.mem_cons.mp ((h x).mp (List.mem_cons_self ..)) with h1 | h1
      · exact h1
      · rcases List.mem_cons.mp ((h y).mpr (List.mem_cons_self ..)) with h2 | h2
        · exact h2.symm
        · exact (asym (hl.1 _ h2) (hk.1 _ h1)).elim
    subst e
    congr 1
    refine lex_ext hl.2 hk.2 fun z => ⟨fun hz => ?_, fun hz => ?_⟩
    · rcases List.mem_cons.mp ((h z).mp (List.mem_cons_of_mem _ hz)) with e | e
      · subst e
        exact (irr (hl.1 _ hz)).elim
      · exact e
    · rcases List.mem_cons.mp ((h z).mpr (List.mem_cons_of_mem _ hz)) with e | e
      · subst e
        exact (irr (hk.1 _ hz)).elim
      · exact e
end Cl
namespace Cl
open Kzi1 Kzi2

/-- they go together, over whole numbers -/
def GoI (a b : Int) (ns : List Int) : Prop := ∃ x ∈ ns, land x a = b
theorem having_pos {a b : Int} {ns : List Int} : 0 < (having a b ns).length ↔ GoI a b ns := by
  unfold having GoI
  rw [List.length_pos_iff_exists_mem]
  constructor
  · rintro ⟨x, hx⟩
    obtain ⟨h1, h2⟩ := List.mem_filter.mp hx
    exact ⟨x, h1, of_decide_eq_true h2⟩
  · rintro ⟨x, h1, h2⟩
    exact ⟨x, List.mem_filter.mpr ⟨h1, decide_eq_true h2⟩⟩
theorem goI_nat {a b : Nat} {ns : List Int} : GoI a b ns ↔ Go (Kzi2Neutral.natsOf ns) a b := by
  unfold GoI Go Kzi2Neutral.natsOf land
  constructor
  · rintro ⟨x, h1, h2⟩
    exact ⟨x.toNat, List.mem_map_of_mem h1, Int.ofNat_inj.mp h2⟩
  · rintro ⟨r, h1, h2⟩
    obtain ⟨x, hx, rfl⟩ := List.mem_map.mp h1
    exact ⟨x, hx, Int.ofNat_inj.mpr h2⟩
/-- a row without a question that is there: less the question's own -/
theorem row_less (m : Nat) (p : Nat → Bool) (q : Nat) : row m p = row m (fun i => p i && i != q) + if q < m ∧ p q = true then 2 ^ q else 0 := by
  induction m with
  | zero => rfl
  | succ m ih =>
    rw [row_succ, row_succ, ih]
    by_cases e : m = q
    · subst e
      have e0 : ¬ (p m && m != m) = true := by simp
      rw [if_neg (c := m < m ∧ p m = true) (fun z => Nat.lt_irrefl _ z.1), if_neg e0]
      by_cases h : p m = true
      · rw [if_pos h, if_pos (c := m < m + 1 ∧ p m = true) ⟨Nat.lt_succ_self m, h⟩]
      · rw [if_neg h, if_neg (c := m < m + 1 ∧ p m = true) (fun z => h z.2)]
    · have e1 : (m != q) = true := by simpa using e
      have e2 : (q < m + 1 ∧ p q = true) ↔ (q < m ∧ p q = true) := by
        have : q < m + 1 ↔ q < m := by omega
        rw [this]
      simp only [e1, e2, Bool.and_true]
      omega
theorem row_self {m x : Nat} (hx : x < 2 ^ m) : row m (bit x) = x := by
  refine Nat.eq_of_testBit_eq fun q => ?_
  rw [row_bit, bit_test]
  cases e : x.testBit q with
  | false => rw [Bool.and_false]
  | true => rw [decide_eq_true (tb_lt hx e)]; rfl
theorem less_add {m x q : Nat} (hx : x < 2 ^ m) (hq : x.testBit q = true) : x = less m x q + 2 ^ q := by
  have h := row_less m (bit x) q
  rw [row_self hx, if_pos ⟨tb_lt hx hq, by rw [bit_test]; exact hq⟩] at h
  exact h
theorem less_eq {m x q : Nat} (hx : x < 2 ^ m) (hq : x.testBit q = true) : less m x q = x - 2 ^ q := by
  have := less_add hx hq
  omega
theorem less_and {m a b q : Nat} (ha : a < 2 ^ m) (hb : a &&& b = b) : less m b q = b &&& less m a q := by
  have hb' : b < 2 ^ m := by
    rw [← hb]
    exact Nat.lt_of_le_of_lt Nat.and_le_left ha
  refine Nat.eq_of_testBit_eq fun p => ?_
  rw [Nat.testBit_and, less_bit ha, less_bit hb', ← hb, Nat.testBit_and]
  cases a.testBit p <;> cases b.testBit p <;> cases p != q <;> rfl
theorem and_two_pow_zero {a q : Nat} : a &&& 2 ^ q = 0 ↔ a.testBit q = false := by
  constructor
  · intro h
    have : (a &&& 2 ^ q).testBit q = false := by rw [h, Nat.zero_testBit]
    rw [Nat.testBit_and, Nat.testBit_two_pow_self, Bool.and_true] at this
    exact this
  · intro h
    refine Nat.eq_of_testBit_eq fun p => ?_
    rw [Nat.testBit_and, Nat.zero_testBit, Nat.testBit_two_pow]
    by_cases e : q = p
    · subst e
      rw [h, Bool.false_and]
    · rw [decide_eq_false e, Bool.and_false]
/-- what is_clash tells: m questions, a and b as they stand -/
def ClashI (m a b : Int) (ns : List Int) : Prop := ¬ GoI a b ns ∧ ∀ q : Nat, q < m.toNat → land a (2 ^ q) ≠ 0 → GoI (a - 2 ^ q) (land b (a - 2 ^ q)) ns
theorem land_pow {a : Nat} {q : Nat} : land (a : Int) (2 ^ q) ≠ 0 ↔ a.testBit q = true := by
  unfold land
  rw [← pow_cast, Int.toNat_natCast, Int.toNat_natCast, ne_eq, ← Int.natCast_zero, Int.ofNat_inj, and_two_pow_zero, Bool.not_eq_false]
theorem land_pow_le {a : Int} {q : Nat} (ha : 0 ≤ a) (h : land a (2 ^ q) ≠ 0) : 2 ^ q ≤ a := by
  obtain ⟨n, rfl⟩ := Int.eq_ofNat_of_zero_le ha
  have := Nat.ge_two_pow_of_testBit (land_pow.mp h)
  rw [← pow_cast]
  exact Int.ofNat_le.mpr this
theorem clashI_nat {m : Int} {ns : List Int} {a b : Nat} (h0 : ∀ x ∈ ns, 0 ≤ x) (hR : OkR m ns) (ha : a < 2 ^ m.toNat) :
    (land a b = b ∧ ClashI m a b ns) ↔ clash m.toNat (Kzi2Neutral.natsOf ns) a b = true := by
  have hk : ∀ r ∈ Kzi2Neutral.natsOf ns, r < 2 ^ m.toNat := fun r hr => by
    obtain ⟨x, hx, rfl⟩ := List.mem_map.mp hr
    exact (lt_pow_nat (h0 x hx) _).mpr (hR.2.2.1 x hx)
  rw [clash_iff hk]
  have e1 : land (a : Int) (b : Int) = (b : Int) ↔ a &&& b = b := by
    unfold land
    rw [Int.toNat_natCast, Int.toNat_natCast, Int.ofNat_inj]
  unfold ClashI
  rw [e1, goI_nat]
  have step : a &&& b = b → ∀ q, a.testBit q = true → (GoI ((a : Int) - 2 ^ q) (land b ((a : Int) - 2 ^ q)) ns ↔ Go (Kzi2Neutral.natsOf ns) (less m.toNat a q) (less m.toNat b q)) := by
    intro hb q hq
    have h1 : ((a : Int) - 2 ^ q) = ((less m.toNat a q : Nat) : Int) := by
      have := less_add ha hq
      rw [← pow_cast]
      omega
    rw [h1, less_and ha hb]
    have h2 : land (b : Int) ((less m.toNat a q : Nat) : Int) = ((b &&& less m.toNat a q : Nat) : Int) := by
      unfold land
      rw [Int.toNat_natCast, Int.toNat_natCast]
    rw [h2, goI_nat]
  constructor
  · rintro ⟨hb, h1, h2⟩
    exact ⟨⟨ha, hb⟩, h1, fun q hq hbit => (step hb q hbit).mp (h2 q hq (land_pow.mpr hbit))⟩
  · rintro ⟨⟨_, hb⟩, h1, h2⟩
    exact ⟨hb, h1, fun q hq hbit => (step hb q (land_pow.mp hbit)).mpr (h2 q hq (land_pow.mp hbit))⟩

/-! ### the clashes in the order in which the program finds them -/
def inner (m : Nat) (ok : List Nat) (a j : Nat) : List (Nat × Nat) := ((List.range j).filter (clash m ok a)).map fun b => (a, b)
def upTo (m : Nat) (ok : List Nat) (i : Nat) : List (Nat × Nat) := (List.range i).flatMap fun a => inner m ok a (a + 1)
theorem inner_succ (m : Nat) (ok : List Nat) (a j : Nat) : inner m ok a (j + 1) = inner m ok a j ++ if clash m ok a j = true then [(a, j)] else [] := by
  unfold inner
  rw [List.range_succ, List.filter_append, List.map_append]
  congr 1
  by_cases c : clash m ok a j = true
  · rw [if_pos c, List.filter_cons_of_pos c]
    rfl
  · rw [if_neg c, List.filter_cons_of_neg c]
    rfl
theorem upTo_succ (m : Nat) (ok : List Nat) (i : Nat) : upTo m ok (i + 1) = upTo m ok i ++ inner m ok i (i + 1) := by
  unfold upTo
  rw [List.range_succ, List.flatMap_append]
  congr 1
  simp
theorem clash_le {m : Nat} {ok : List Nat} {a b : Nat} (h : clash m ok a b = true) : b ≤ a ∧ b < 2 ^ m := by
  unfold clash at h
  rw [Bool.and_eq_true, Bool.and_eq_true, okSome_iff] at h
  obtain ⟨⟨⟨h1, h2⟩, _⟩, _⟩ := h
  have : a &&& b ≤ a := Nat.and_le_left
  omega
theorem upTo_all (m : Nat) (ok : List Nat) : upTo m ok (2 ^ m) = Kzi2.clashes m ok := by
  unfold upTo Kzi2.clashes rows
  have : ∀ a, inner m ok a (a + 1) = ((List.range (2 ^ m)).filter (clash m ok a)).map fun b => (a, b) := by
    intro a
    unfold inner
    congr 1
    refine rising_ext (List.pairwise_lt_range.filter _) (List.pairwise_lt_range.filter _) fun b => ?_
    rw [List.mem_filter, List.mem_filter, List.mem_range, List.mem_range]
    constructor
    · rintro ⟨_, h⟩
      exact ⟨(clash_le h).2, h⟩
    · rintro ⟨_, h⟩
      exact ⟨Nat.lt_succ_of_le (clash_le h).1, h⟩
  simp only [this]
theorem inner_len (m : Nat) (ok : List Nat) (a j : Nat) : (inner m ok a j).length ≤ j := by
  unfold inner
  rw [List.length_map]
  exact Nat.le_trans (List.length_filter_le _ _) (Nat.le_of_eq List.length_range)
theorem upTo_len (m : Nat) (ok : List Nat) (i : Nat) : (upTo m ok i).length ≤ i * i := by
  induction i with
  | zero => exact Nat.le_refl _
  | succ i ih =>
    rw [upTo_succ, List.length_append]
    have := inner_len m ok i (i + 1)
    have e : (i + 1) * (i + 1) = i * i + (2 * i + 1) := by
      rw [Nat.add_mul, Nat.mul_add]
      omega
    omega
theorem clashes_len {m : Nat} (hm : m ≤ 5) (ok : List Nat) : (Kzi2.clashes m ok).length ≤ 1024 := by
  rw [← upTo_all]
  refine Nat.le_trans (upTo_len _ _ _) ?_
  have : 2 ^ m ≤ 32 := Nat.pow_le_pow_right (by decide) hm
  exact Nat.le_trans (Nat.mul_le_mul this this) (by decide)

/-! ### what is due -/
theorem rules_bad {m : Int} {ns : List Int} (h0 : ∀ x ∈ ns, 0 ≤ x) (h : ¬ OkR m ns) : okRules m.toNat (Kzi2Neutral.natsOf ns) = false := by
  rw [← Bool.not_eq_true, okR_spec h0]
  exact h
theorem rules_good {m : Int} {ns : List Int} (h0 : ∀ x ∈ ns, 0 ≤ x) (h : OkR m ns) : ¬ okRules m.toNat (Kzi2Neutral.natsOf ns) = false := by
  rw [← Bool.not_eq_true, okR_spec h0]
  exact fun z => z h
theorem clashes_bad {m : Int} {ns : List Int} (h0 : ∀ x ∈ ns, 0 ≤ x) (h : ¬ OkR m ns) : PyKzi2.clashes m ns = [-22] := by
  unfold PyKzi2.clashes Kzi2Neutral.f Kzi2Neutral.callOf Kzi2.answer
  simp only [if_pos (rules_bad h0 h)]
  rfl
/-- a and b of each -/
def flat (l : List (Nat × Nat)) : List Int := l.flatMap fun c => [(c.1 : Int), (c.2 : Int)]
theorem clashes_good {m : Int} {ns : List Int} (h0 : ∀ x ∈ ns, 0 ≤ x) (h : OkR m ns) :
    PyKzi2.clashes m ns = ((Kzi2.clashes m.toNat (Kzi2Neutral.natsOf ns)).length : Int) :: flat (Kzi2.clashes m.toNat (Kzi2Neutral.natsOf ns)) := by
  unfold PyKzi2.clashes Kzi2Neutral.f Kzi2Neutral.callOf Kzi2.answer
  simp only [if_neg (rules_good h0 h)]
  congr 1
  unfold Kzi2Neutral.ints flat
  rw [List.map_flatMap]
  rfl
theorem greatest_bad {m : Int} {ns : List Int} (h0 : ∀ x ∈ ns, 0 ≤ x) (h : ¬ OkR m ns) : PyKzi2.greatest m ns = [-22] := by
  unfold PyKzi2.greatest Kzi2Neutral.f Kzi2Neutral.callOf Kzi2.answer
  simp only [if_pos (rules_bad h0 h)]
  rfl
theorem most_le : ∀ (l : List Nat) (k : Nat), k ≤ l.foldl max k ∧ (∀ x ∈ l, x ≤ l.foldl max k) ∧ (l.foldl max k = k ∨ l.foldl max k ∈ l)
  | [], k => ⟨Nat.le_refl _, (fun x hx => nomatch hx), .inl rfl⟩
  | y :: l, k => by
    obtain ⟨h1, h2, h3⟩ := most_le l (max k y)
    rw [List.foldl_cons]
    refine ⟨by omega, fun x hx => ?_, ?_⟩
    · rcases List.mem_cons.mp hx with e | e
      · subst e
        omega
      · exact h2 x e
    · rcases h3 with e | e
      · rw [e]
        by_cases c : k ≤ y
        · rw [Nat.max_eq_right c]
          exact .inr (List.mem_cons_self ..)
        · rw [Nat.max_eq_left (by omega)]
          exact .inl rfl
      · exact .inr (List.mem_cons_of_mem _ e)
/-- the sizes of the clashes, as the program has them -/
def sizes (m : Int) (ns : List Int) : List Int := (Kzi2.clashes m.toNat (Kzi2Neutral.natsOf ns)).map fun c => ((size m.toNat c.1 : Nat) : Int)
theorem greatest_good {m g : Int} {ns : List Int} (h0 : ∀ x ∈ ns, 0 ≤ x) (h : OkR m ns) (hg : (sizes m ns = [] ∧ g = 0) ∨ (g ∈ sizes m ns ∧ ∀ x ∈ sizes m ns, x ≤ g)) : PyKzi2.greatest m ns = [g] := by
  unfold PyKzi2.greatest Kzi2Neutral.f Kzi2Neutral.callOf Kzi2.answer
  simp only [if_neg (rules_good h0 h)]
  have e : ((Kzi2.greatest m.toNat (Kzi2Neutral.natsOf ns) : Nat) : Int) = g := by
    unfold Kzi2.greatest most
    generalize hl : (Kzi2.clashes m.toNat (Kzi2Neutral.natsOf ns)).map (fun c => size m.toNat c.1) = l
    have hs : sizes m ns = l.map fun (x : Nat) => (x : Int) := by
      rw [← hl, List.map_map]
      rfl
    rw [hs] at hg
    obtain ⟨m1, m2, m3⟩ := most_le l 0
    rcases hg with ⟨z, rfl⟩ | ⟨z1, z2⟩
    · rw [List.map_eq_nil_iff] at z
      rw [z]
      rfl
    · obtain ⟨x, hx, rfl⟩ := List.mem_map.mp z1
      have a1 := m2 x hx
      rcases m3 with e | e
      · rw [e] at a1 ⊢
        omega
      · have := z2 _ (List.mem_map_of_mem e)
        omega
  show [((Kzi2.greatest m.toNat (Kzi2Neutral.natsOf ns) : Nat) : Int)] = [g]
  rw [e]
end Cl
namespace Cl
open Kzi1 Kzi2
/-! ### within some answers -/
/-- all of whose answers are among these -/
def isIn (m a b : Nat) (c : Nat × Nat) : Bool := (List.range m).all fun q => !bit c.1 q || (bit a q && bit b q == bit c.2 q)
theorem sub_iff {x a : Nat} : x &&& a = x ↔ ∀ q, x.testBit q = true → a.testBit q = true := by
  constructor
  · intro h q hq
    rw [← h, Nat.testBit_and, Bool.and_eq_true] at hq
    exact hq.2
  · intro h
    refine Nat.eq_of_testBit_eq fun q => ?_
    rw [Nat.testBit_and]
    cases e : x.testBit q with
    | false => rfl
    | true => rw [h q e]; rfl
theorem isIn_iff {m a b : Nat} {c : Nat × Nat} (h1 : c.1 < 2 ^ m) (h2 : c.1 &&& c.2 = c.2) : isIn m a b c = true ↔ c.1 &&& a = c.1 ∧ b &&& c.1 = c.2 := by
  rw [← has_iff h1 h2, sub_iff]
  unfold isIn has
  rw [List.all_eq_true, List.all_eq_true]
  constructor
  · intro h
    refine ⟨fun q hq => ?_, fun q hq => ?_⟩
    · have := h q (List.mem_range.mpr (tb_lt h1 hq))
      rw [bit_test, bit_test, hq, Bool.not_true, Bool.false_or, Bool.and_eq_true] at this
      exact this.1
    · have := h q hq
      cases e : bit c.1 q with
      | false => rfl
      | true =>
        rw [e, Bool.not_true, Bool.false_or, Bool.and_eq_true] at this
        rw [Bool.not_true, Bool.false_or]
        exact this.2
  · rintro ⟨h3, h4⟩ q hq
    have := h4 q hq
    cases e : bit c.1 q with
    | false => rfl
    | true =>
      rw [e, Bool.not_true, Bool.false_or] at this
      rw [Bool.not_true, Bool.false_or, Bool.and_eq_true]
      rw [bit_test] at e
      exact ⟨by rw [bit_test]; exact h3 q e, this⟩
/-- the first of the smallest: those ahead of it are greater, none behind it is smaller -/
theorem find_first {α : Type} {f : α → Nat} {l l1 l2 : List α} {b : α} (e : l = l1 ++ b :: l2) (h1 : ∀ d ∈ l1, f b < f d) (h2 : ∀ d ∈ l2, f b ≤ f d) :
    l.find? (fun c => l.all fun d => decide (f c ≤ f d)) = some b := by
  rw [List.find?_eq_some_iff_append]
  have hb : ∀ d ∈ l, f b ≤ f d := fun d hd => by
    rw [e, List.mem_append, List.mem_cons] at hd
    rcases hd with z | z | z
    · exact Nat.le_of_lt (h1 d z)
    · rw [z]; exact Nat.le_refl _
    · exact h2 d z
  refine ⟨List.all_eq_true.mpr fun d hd => decide_eq_true (hb d hd), l1, l2, e, fun d hd => ?_⟩
  rw [Bool.not_eq_true', List.all_eq_false]
  refine ⟨b, by rw [e]; exact List.mem_append_right _ (List.mem_cons_self ..), ?_⟩
  have := h1 d hd
  rw [decide_eq_true_iff]
  omega
/-- the clashes within -/
def inside (m : Nat) (ok : List Nat) (a b : Nat) : List (Nat × Nat) := (Kzi2.clashes m ok).filter (isIn m a b)
theorem within_eq (m : Nat) (ok : List Nat) (a b : Nat) : Kzi2.within m ok a b = (inside m ok a b).find? fun c => (inside m ok a b).all fun d => decide (size m c.1 ≤ size m d.1) := rfl
theorem within_bad {m a b : Int} {ns : List Int} (h0 : ∀ x ∈ ns, 0 ≤ x) (ha : 0 ≤ a) (hb : 0 ≤ b) (h : ¬ (OkR m ns ∧ OkA m a b)) : PyKzi2.within m a b ns = [-22] := by
  have hc : okRules m.toNat (Kzi2Neutral.natsOf ns) = false ∨ okSome m.toNat a.toNat b.toNat = false := by
    rw [← Bool.not_eq_true, ← Bool.not_eq_true, okR_spec h0, okA_spec ha hb]
    exact Classical.not_and_iff_not_or_not.mp h
  unfold PyKzi2.within Kzi2Neutral.f Kzi2Neutral.callOf Kzi2.answer
  simp only [if_pos hc]
  rfl
theorem both_good {m a b : Int} {ns : List Int} (h0 : ∀ x ∈ ns, 0 ≤ x) (ha : 0 ≤ a) (hb : 0 ≤ b) (hR : OkR m ns) (hA : OkA m a b) :
    ¬ (okRules m.toNat (Kzi2Neutral.natsOf ns) = false ∨ okSome m.toNat a.toNat b.toNat = false) := by
  rw [← Bool.not_eq_true, ← Bool.not_eq_true, okR_spec h0, okA_spec ha hb]
  exact fun z => z.elim (fun q => q hR) fun q => q hA
theorem within_none {m a b : Int} {ns : List Int} (h0 : ∀ x ∈ ns, 0 ≤ x) (ha : 0 ≤ a) (hb : 0 ≤ b) (hR : OkR m ns) (hA : OkA m a b)
    (h : inside m.toNat (Kzi2Neutral.natsOf ns) a.toNat b.toNat = []) : PyKzi2.within m a b ns = [-17] := by
  have e : Kzi2.within m.toNat (Kzi2Neutral.natsOf ns) a.toNat b.toNat = none := by
    rw [within_eq, h]
    rfl
  unfold PyKzi2.within Kzi2Neutral.f Kzi2Neutral.callOf Kzi2.answer
  simp only [if_neg (both_good h0 ha hb hR hA), e]
  rfl
theorem within_some {m a b : Int} {ns : List Int} {l1 l2 : List (Nat × Nat)} {c : Nat × Nat} (h0 : ∀ x ∈ ns, 0 ≤ x) (ha : 0 ≤ a) (hb : 0 ≤ b) (hR : OkR m ns) (hA : OkA m a b)
    (h : inside m.toNat (Kzi2Neutral.natsOf ns) a.toNat b.toNat = l1 ++ c :: l2) (h1 : ∀ d ∈ l1, size m.toNat c.1 < size m.toNat d.1) (h2 : ∀ d ∈ l2, size m.toNat c.1 ≤ size m.toNat d.1) :
    PyKzi2.within m a b ns = [(size m.toNat c.1 : Int), (c.1 : Int), (c.2 : Int)] := by
  have e : Kzi2.within m.toNat (Kzi2Neutral.natsOf ns) a.toNat b.toNat = some c := by
    rw [within_eq]
    exact find_first (f := fun d => size m.toNat d.1) h h1 h2
  unfold PyKzi2.within Kzi2Neutral.f Kzi2Neutral.callOf Kzi2.answer
  simp only [if_neg (both_good h0 ha hb hR hA), e]
  rfl

/-! ### settled -/
def alike (l : List Nat) (q : Nat) : Bool := l.all (fun r => bit r q) || l.all fun r => !bit r q
def allYes (l : List Nat) (q : Nat) : Bool := l.all fun r => bit r q
theorem settled_row (m : Nat) (l : List Nat) : settled m l = row m (alike l) := rfl
theorem how_row (m : Nat) (l : List Nat) : how m l = row m (allYes l) := rfl
theorem size_row (m : Nat) (p : Nat → Bool) : size m (row m p) = ((List.range m).filter p).length := by
  unfold size
  congr 1
  refine List.filter_congr fun q hq => ?_
  rw [bit_test, row_bit, decide_eq_true (List.mem_range.mp hq), Bool.true_and]
theorem count_succ (m : Nat) (p : Nat → Bool) : ((List.range (m + 1)).filter p).length = ((List.range m).filter p).length + if p m = true then 1 else 0 := by
  rw [List.range_succ, List.filter_append, List.length_append]
  congr 1
  by_cases c : p m = true
  · rw [if_pos c, List.filter_cons_of_pos c]
    rfl
  · rw [if_neg c, List.filter_cons_of_neg c]
    rfl
theorem settled_bad {m a b : Int} {ns : List Int} (h0 : ∀ x ∈ ns, 0 ≤ x) (ha : 0 ≤ a) (hb : 0 ≤ b) (h : ¬ (OkR m ns ∧ OkA m a b)) : PyKzi2.settled m a b ns = [-22] := by
  have hc : okRules m.toNat (Kzi2Neutral.natsOf ns) = false ∨ okSome m.toNat a.toNat b.toNat = false := by
    rw [← Bool.not_eq_true, ← Bool.not_eq_true, okR_spec h0, okA_spec ha hb]
    exact Classical.not_and_iff_not_or_not.mp h
  unfold PyKzi2.settled Kzi2Neutral.f Kzi2Neutral.callOf Kzi2.answer
  simp only [if_pos hc]
  rfl
theorem settled_none {m a b : Int} {ns : List Int} (h0 : ∀ x ∈ ns, 0 ≤ x) (ha : 0 ≤ a) (hb : 0 ≤ b) (hR : OkR m ns) (hA : OkA m a b)
    (h : with_ m.toNat (Kzi2Neutral.natsOf ns) a.toNat b.toNat = []) : PyKzi2.settled m a b ns = [-33] := by
  unfold PyKzi2.settled Kzi2Neutral.f Kzi2Neutral.callOf Kzi2.answer
  simp only [if_neg (both_good h0 ha hb hR hA), h]
  rfl
theorem settled_some {m a b : Int} {ns : List Int} {l : List Nat} (h0 : ∀ x ∈ ns, 0 ≤ x) (ha : 0 ≤ a) (hb : 0 ≤ b) (hR : OkR m ns) (hA : OkA m a b)
    (h : with_ m.toNat (Kzi2Neutral.natsOf ns) a.toNat b.toNat = l) (hl : l ≠ []) :
    PyKzi2.settled m a b ns = [(((List.range m.toNat).filter (alike l)).length : Int), (row m.toNat (alike l) : Int), (row m.toNat (allYes l) : Int)] := by
  have e : ¬ l.isEmpty = true := by
    rw [List.isEmpty_iff]
    exact hl
  unfold PyKzi2.settled Kzi2Neutral.f Kzi2Neutral.callOf Kzi2.answer
  simp only [if_neg (both_good h0 ha hb hR hA), h, if_neg e]
  rw [settled_row, how_row, size_row]
  rfl
end Cl
namespace Cl
open Kzi1 Kzi2
/-! ### the clashes within, in the order in which the program finds them -/
def part (m : Nat) (ok : List Nat) (a b p : Nat) : Bool := decide (p &&& a = p) && clash m ok p (p &&& b)
def parts (m : Nat) (ok : List Nat) (a b i : Nat) : List (Nat × Nat) := ((List.range i).filter (part m ok a b)).map fun p => (p, p &&& b)
theorem parts_succ (m : Nat) (ok : List Nat) (a b i : Nat) : parts m ok a b (i + 1) = parts m ok a b i ++ if part m ok a b i = true then [(i, i &&& b)] else [] := by
  unfold parts
  rw [List.range_succ, List.filter_append, List.map_append]
  congr 1
  by_cases c : part m ok a b i = true
  · rw [if_pos c, List.filter_cons_of_pos c]
    rfl
  · rw [if_neg c, List.filter_cons_of_neg c]
    rfl
theorem parts_len (m : Nat) (ok : List Nat) (a b i : Nat) : (parts m ok a b i).length ≤ i := by
  unfold parts
  rw [List.length_map]
  exact Nat.le_trans (List.length_filter_le _ _) (Nat.le_of_eq List.length_range)
theorem parts_all {m : Nat} {ok : List Nat} {a b : Nat} (ha : a < 2 ^ m) : parts m ok a b (a + 1) = inside m ok a b := by
  refine lex_ext ?_ ((clashes_rising m ok).filter _) fun c => ?_
  · unfold parts
    rw [List.pairwise_map]
    exact (List.pairwise_lt_range.filter _).imp fun h => .inl h
  · unfold parts inside
    rw [List.mem_map, List.mem_filter, clashes_mem]
    constructor
    · rintro ⟨p, hp, rfl⟩
      obtain ⟨h1, h2⟩ := List.mem_filter.mp hp
      have h1 := List.mem_range.mp h1
      unfold part at h2
      rw [Bool.and_eq_true, decide_eq_true_iff] at h2
      have hp : p < 2 ^ m := by omega
      refine ⟨⟨hp, (clash_le h2.2).2, h2.2⟩, (isIn_iff (c := (p, p &&& b)) hp ?_).mpr ⟨h2.1, ?_⟩⟩
      · show p &&& (p &&& b) = p &&& b
        rw [← Nat.and_assoc, Nat.and_self]
      · exact Nat.and_comm _ _
    · rintro ⟨⟨h1, h2, h3⟩, h4⟩
      have h5 : c.1 &&& c.2 = c.2 := by
        have := h3
        unfold clash at this
        rw [Bool.and_eq_true, Bool.and_eq_true, okSome_iff] at this
        exact this.1.1.2
      obtain ⟨h6, h7⟩ := (isIn_iff h1 h5).mp h4
      have e : c.1 &&& b = c.2 := by
        rw [Nat.and_comm]
        exact h7
      refine ⟨c.1, List.mem_filter.mpr ⟨List.mem_range.mpr ?_, ?_⟩, ?_⟩
      · have : c.1 &&& a ≤ a := Nat.and_le_right
        omega
      · unfold part
        rw [e, h3, decide_eq_true h6]
        rfl
      · rw [e]
theorem part_iff {m : Int} {ns : List Int} {a b p : Nat} (h0 : ∀ x ∈ ns, 0 ≤ x) (hR : OkR m ns) (hp : p < 2 ^ m.toNat) :
    (land p a = p ∧ ClashI m p (land p b) ns) ↔ part m.toNat (Kzi2Neutral.natsOf ns) a b p = true := by
  have k := clashI_nat (m := m) (ns := ns) (a := p) (b := p &&& b) h0 hR hp
  have e : land (p : Int) (b : Int) = ((p &&& b : Nat) : Int) := by
    unfold land
    rw [Int.toNat_natCast, Int.toNat_natCast]
  have e1 : land (p : Int) ((p &&& b : Nat) : Int) = ((p &&& b : Nat) : Int) := by
    unfold land
    rw [Int.toNat_natCast, Int.toNat_natCast, ← Nat.and_assoc, Nat.and_self]
  have e2 : land (p : Int) (a : Int) = (p : Int) ↔ p &&& a = p := by
    unfold land
    rw [Int.toNat_natCast, Int.toNat_natCast, Int.ofNat_inj]
  unfold part
  rw [Bool.and_eq_true, decide_eq_true_iff, ← k, e, e2]
  exact ⟨fun z => ⟨z.1, e1, z.2⟩, fun z => ⟨z.1, z.2.2⟩⟩
/-- the first of those with the least -/
theorem find_least {α : Type} {f : α → Nat} {l rest : List α} {g : Int} {c : α} (hg : g ∈ l.map fun d => (f d : Int)) (hle : ∀ x ∈ l.map (fun d => (f d : Int)), g ≤ x)
    (e : l.filter (fun d => decide ((f d : Int) = g)) = c :: rest) : l.find? (fun c => l.all fun d => decide (f c ≤ f d)) = some c := by
  have e2 : l.filter (fun c => l.all fun d => decide (f c ≤ f d)) = l.filter (fun d => decide ((f d : Int) = g)) := by
    refine List.filter_congr fun x hx => ?_
    rw [Bool.eq_iff_iff, decide_eq_true_iff, List.all_eq_true]
    constructor
    · intro h
      obtain ⟨d, hd, rfl⟩ := List.mem_map.mp hg
      have h1 := of_decide_eq_true (h d hd)
      have h2 := hle _ (List.mem_map_of_mem hx)
      omega
    · intro h d hd
      have h2 := hle _ (List.mem_map_of_mem hd)
      exact decide_eq_true (by omega)
  rw [← List.head?_filter, e2, e]
  rfl
theorem within_least {m a b g : Int} {ns : List Int} {c : Nat × Nat} {rest : List (Nat × Nat)} (h0 : ∀ x ∈ ns, 0 ≤ x) (ha : 0 ≤ a) (hb : 0 ≤ b) (hR : OkR m ns) (hA : OkA m a b)
    (hg : g ∈ (inside m.toNat (Kzi2Neutral.natsOf ns) a.toNat b.toNat).map fun d => ((size m.toNat d.1 : Nat) : Int)) (hle : ∀ x ∈ (inside m.toNat (Kzi2Neutral.natsOf ns) a.toNat b.toNat).map (fun d => ((size m.toNat d.1 : Nat) : Int)), g ≤ x)
    (e : (inside m.toNat (Kzi2Neutral.natsOf ns) a.toNat b.toNat).filter (fun d => decide (((size m.toNat d.1 : Nat) : Int) = g)) = c :: rest) :
    PyKzi2.within m a b ns = [g, (c.1 : Int), (c.2 : Int)] := by
  have e1 : Kzi2.within m.toNat (Kzi2Neutral.natsOf ns) a.toNat b.toNat = some c := by
    rw [within_eq]
    exact find_least (f := fun (d : Nat × Nat) => size m.toNat d.1) hg hle e
  have e2 : ((size m.toNat c.1 : Nat) : Int) = g := by
    have : c ∈ (inside m.toNat (Kzi2Neutral.natsOf ns) a.toNat b.toNat).filter (fun d => decide (((size m.toNat d.1 : Nat) : Int) = g)) := by
      rw [e]
      exact List.mem_cons_self ..
    exact of_decide_eq_true (List.mem_filter.mp this).2
  rw [← e2]
  unfold PyKzi2.within Kzi2Neutral.f Kzi2Neutral.callOf Kzi2.answer
  simp only [if_neg (both_good h0 ha hb hR hA), e1]
  rfl

/-! ### settled -/
theorem row_of {m n : Nat} {p : Nat → Bool} (h : ∀ q, n.testBit q = (decide (q < m) && p q)) : n = row m p :=
  Nat.eq_of_testBit_eq fun q => by rw [h, row_bit]
theorem row_not (m : Nat) (p : Nat → Bool) : row m p + row m (fun q => !p q) + 1 = 2 ^ m := by
  induction m with
  | zero => rfl
  | succ m ih =>
    rw [row_succ, row_succ, Nat.pow_succ]
    cases e : p m
    · simp only [Bool.not_false, if_true, Bool.false_eq_true, if_false]
      omega
    · simp only [Bool.not_true, if_true, Bool.false_eq_true, if_false]
      omega
theorem row_or (m : Nat) {p q : Nat → Bool} (h : ∀ i, p i = true → q i = true → False) : row m p + row m q = row m fun i => p i || q i := by
  induction m with
  | zero => rfl
  | succ m ih =>
    rw [row_succ, row_succ, row_succ, ← ih]
    cases e : p m <;> cases e2 : q m
    · simp only [Bool.or_self, Bool.false_eq_true, if_false]
      omega
    · simp only [Bool.or_true, if_true, Bool.false_eq_true, if_false]
      omega
    · simp only [Bool.or_false, if_true, Bool.false_eq_true, if_false]
      omega
    · exact (h m e e2).elim
def andAll (x : Nat) (l : List Nat) : Nat := l.foldl (fun u v => u &&& v) x
def orAll (l : List Nat) : Nat := l.foldl (fun u v => u ||| v) 0
theorem andAll_bit (q : Nat) : ∀ (l : List Nat) (x : Nat), (andAll x l).testBit q = (x.testBit q && l.all fun r => r.testBit q)
  | [], x => by
    show x.testBit q = (x.testBit q && true)
    rw [Bool.and_true]
  | r :: l, x => by
    show (andAll (x &&& r) l).testBit q = _
    rw [andAll_bit q l (x &&& r), Nat.testBit_and, List.all_cons, Bool.and_assoc]
theorem orAll_bit (q : Nat) : ∀ (l : List Nat) (x : Nat), (l.foldl (fun u v => u ||| v) x).testBit q = (x.testBit q || l.any fun r => r.testBit q)
  | [], x => by
    show x.testBit q = (x.testBit q || false)
    rw [Bool.or_false]
  | r :: l, x => by
    rw [List.foldl_cons, orAll_bit q l (x ||| r), Nat.testBit_or, List.any_cons, Bool.or_assoc]
theorem andAll_row {m x : Nat} {l : List Nat} (hx : l[0]? = some x) (hl : ∀ r ∈ l, r < 2 ^ m) : andAll x l = row m (allYes l) := by
  refine row_of fun q => ?_
  have hm : x ∈ l := List.mem_of_getElem? hx
  have e : allYes l q = l.all fun r => r.testBit q := by
    unfold allYes
    simp only [bit_test]
  rw [andAll_bit, e]
  cases c : l.all fun r => r.testBit q with
  | false => rw [Bool.and_false, Bool.and_false]
  | true =>
    have h1 := List.all_eq_true.mp c x hm
    rw [h1, decide_eq_true (tb_lt (hl x hm) h1)]
def someYes (l : List Nat) (q : Nat) : Bool := l.any fun r => bit r q
theorem orAll_row {m : Nat} {l : List Nat} (hl : ∀ r ∈ l, r < 2 ^ m) : orAll l = row m (someYes l) := by
  refine row_of fun q => ?_
  have e : someYes l q = l.any fun r => r.testBit q := by
    unfold someYes
    simp only [bit_test]
  unfold orAll
  rw [orAll_bit, e, Nat.zero_testBit, Bool.false_or]
  cases c : l.any fun r => r.testBit q with
  | false => rw [Bool.and_false]
  | true =>
    obtain ⟨r, hr, h1⟩ := List.any_eq_true.mp c
    rw [decide_eq_true (tb_lt (hl r hr) h1)]
    rfl
theorem alike_row {m : Nat} {l : List Nat} (hl : l ≠ []) : row m (allYes l) + row m (fun q => !someYes l q) = row m (alike l) := by
  have e : alike l = fun q => allYes l q || !someYes l q := by
    funext q
    unfold alike allYes someYes
    congr 1
    rw [List.all_eq_not_any_not]
    simp only [Bool.not_not]
  rw [e]
  refine row_or m fun q h1 h2 => ?_
  cases l with
  | nil => exact hl rfl
  | cons r l =>
    unfold allYes at h1
    unfold someYes at h2
    rw [List.all_cons, Bool.and_eq_true] at h1
    rw [List.any_cons, h1.1] at h2
    exact Bool.noConfusion h2
/-- what the program makes of the rows: yes, and what is open or yes taken off all -/
theorem settled_good {m a b : Int} {ns : List Int} {l : List Nat} {x : Nat} (h0 : ∀ x ∈ ns, 0 ≤ x) (ha : 0 ≤ a) (hb : 0 ≤ b) (hR : OkR m ns) (hA : OkA m a b)
    (h : with_ m.toNat (Kzi2Neutral.natsOf ns) a.toNat b.toNat = l) (hx : l[0]? = some x) :
    orAll l < 2 ^ m.toNat ∧ PyKzi2.settled m a b ns = [((size m.toNat (andAll x l + (2 ^ m.toNat - 1 - orAll l)) : Nat) : Int), ((andAll x l + (2 ^ m.toNat - 1 - orAll l) : Nat) : Int), (andAll x l : Int)] := by
  have hl : ∀ r ∈ l, r < 2 ^ m.toNat := fun r hr => by
    rw [← h] at hr
    exact (with_mem.mp hr).1
  have hn : l ≠ [] := fun z => by
    rw [z] at hx
    cases hx
  have e1 := andAll_row hx hl
  have e2 := orAll_row hl
  have e3 := row_not m.toNat (someYes l)
  have e4 : 2 ^ m.toNat - 1 - orAll l = row m.toNat fun q => !someYes l q := by
    rw [e2]
    omega
  refine ⟨by rw [e2]; exact row_lt _ _, ?_⟩
  rw [settled_some h0 ha hb hR hA h hn, e1, e4, alike_row hn, ← size_row]
end Cl
namespace Cl
open PySem PySem.Spec PyProof.Rows L2
/-! ### how many different numbers a list has -/
theorem dedup_len {acc : List Int} {x : Int} : (step_dedup acc x).length ≤ acc.length + 1 ∧ ((step_dedup acc x).length = acc.length + 1 ↔ x ∉ acc) := by
  unfold step_dedup
  have e : acc.any (· == x) = true ↔ x ∈ acc := by
    rw [List.any_eq_true]
    constructor
    · rintro ⟨y, hy, h⟩
      rw [← eq_of_beq h]
      exact hy
    · intro h
      exact ⟨x, h, beq_self_eq_true x⟩
  by_cases h : acc.any (· == x) = true
  · rw [if_pos h]
    refine ⟨Nat.le_succ _, fun z => ?_, fun z => absurd (e.mp h) z⟩
    omega
  · rw [if_neg h, List.length_append]
    exact ⟨Nat.le_refl _, fun _ z => h (e.mpr z), fun _ => rfl⟩
theorem dedup_mem {acc : List Int} {x y : Int} : y ∈ step_dedup acc x ↔ y ∈ acc ∨ y = x := by
  unfold step_dedup
  by_cases h : acc.any (· == x) = true
  · rw [if_pos h]
    obtain ⟨z, hz, ez⟩ := List.any_eq_true.mp h
    have ez2 : z = x := eq_of_beq ez
    subst ez2
    constructor
    · exact fun q => .inl q
    · rintro (q | q)
      · exact q
      · rw [q]
        exact hz
  · rw [if_neg h, List.mem_append, List.mem_singleton]
/-- a list added to a list of different numbers, each only once -/
theorem fold_len : ∀ (l acc : List Int), (l.foldl step_dedup acc).length ≤ acc.length + l.length ∧
    ((l.foldl step_dedup acc).length = acc.length + l.length ↔ (l.Nodup ∧ ∀ x ∈ l, x ∉ acc))
  | [], acc => ⟨Nat.le_refl _, by simp⟩
  | x :: l, acc => by
    obtain ⟨h1, h2⟩ := fold_len l (step_dedup acc x)
    obtain ⟨d1, d2⟩ := dedup_len (acc := acc) (x := x)
    rw [List.foldl_cons, List.length_cons]
    refine ⟨by omega, fun z => ?_, fun ⟨n, m⟩ => ?_⟩
    · have e1 : (step_dedup acc x).length = acc.length + 1 := by omega
      have hx := d2.mp e1
      obtain ⟨n, m⟩ := h2.mp (by omega)
      refine ⟨List.nodup_cons.mpr ⟨fun hm => m x hm (dedup_mem.mpr (.inr rfl)), n⟩, fun y hy => ?_⟩
      rcases List.mem_cons.mp hy with e | hy
      · rw [e]
        exact hx
      · exact fun q => m y hy (dedup_mem.mpr (.inl q))
    · obtain ⟨nx, n⟩ := List.nodup_cons.mp n
      have e1 := d2.mpr (m x (List.mem_cons_self ..))
      have e2 := h2.mpr ⟨n, fun y hy q => ?_⟩
      · omega
      · rcases dedup_mem.mp q with q | q
        · exact m y (List.mem_cons_of_mem _ hy) q
        · rw [q] at hy
          exact nx hy
theorem range_getD (ns : List Int) : (List.range ns.length).map (fun i => ns.getD i 0) = ns := by
  refine List.ext_getElem (by simp) fun i h1 h2 => ?_
  rw [List.getElem_map, List.getElem_range, List.getD_eq_getElem?_getD, List.getElem?_eq_getElem h2]
  rfl
theorem met_len (ns : List Int) : (firstMet (fun i => ns.getD i 0) ns.length).length = ns.length ↔ ns.Nodup := by
  unfold firstMet
  rw [range_getD]
  have h := (fold_len ns []).2
  rw [List.length_nil, Nat.zero_add] at h
  rw [h]
  constructor
  · exact fun q => q.1
  · exact fun q => ⟨q, fun x _ z => by cases z⟩
/-! ### len(set(xs)), whatever the list of numbers -/
def tLenSetA (K : PySem.W.Frag) (ta : TE) : TE := fun σ H Q => ta σ H fun x H1 =>
  ∃ (l : Addr) (ns : List Int), x = .ref l ∧ SqL K H1 l (ns.map V.int) ∧ ns.length ≤ 4000 ∧
    ∀ n : Nat, (n = ns.length ↔ ns.Nodup) → Q (.int (n : Nat)) H1
theorem pe_lenSetA {X : Cx} {a : Expr} {ta : TE} {p p2 q pos : Pos} (g1 : Gl X "len") (m1 : X.mg "len" = none)
    (g2 : Gl X "set") (m2 : X.mg "set" = none) (ha : PE X a ta) (hc : X.calm = true := by rfl)
    (na : starEach [a] X.env = (false, eval a X.env) :: starEach [] X.env := by rfl) :
    PE X (.Call (.Name "len" p) [.Call (.Name "set" p2) [a] [] q] [] pos) (tLenSetA X.K ta) := by
  constructor
  intro pins s σ H Q I h
  refine Call_ ?_
  refine ld_blt I g1 m1 boot_len ?_
  refine callWith_builtin1 (args_cons ?_ rfl) rfl rfl
  refine Call_ ?_
  refine ld_blt I g2 m2 boot_set ?_
  refine callWith_type1 (args_cons (thn (ha.run pins s σ H _ I h) ?_) na) na rfl
  rintro v s1 ⟨x, H1, I1, r1, l, ns, rfl, hq, hl, k⟩
  refine args_nil ?_
  cases r1
  obtain ⟨its, r, pl, hz⟩ := I1.list hq
  have hi := r.ints
  have sz : its.toArray.size = ns.length := by
    rw [List.size_toArray, ← r.length, List.length_map]
  refine call_set_list (I1.ok.hd hc) pl.isList (by simpa using hi) ?_ ?_
  · rw [sz]
    unfold scanBound
    omega
  intro h2 tk hS hk
  refine args_nil ?_
  rw [sz] at hS
  obtain ⟨o, es, ep, t, ho, hex, hd, _, _, _, hf, hn⟩ := hS
  have I2 : Inv X pins σ H1 { s1 with heap := h2, toks := tk } := I1.kept fun b o e => hk b o (Heap.lt_size e) e
  have small := firstMet_length_le (fun i => ns.getD i 0) ns.length
  refine call_len_set ho hex hd hf (by rw [hn]; omega) ?_
  exact ⟨.int _, H1, I2.tok _, ⟨_, rfl⟩, k es.size (by rw [hn]; exact met_len ns)⟩
end Cl
namespace Cl
open PySem PySem.Spec PyProof.Rows L2
/-! ### the text -/
def topS (i : Nat) : Stmt := PySem.Challenge.pw_clashrules_s04_within.main.body.getD i (.Pass ⟨0, 0, 0, 0⟩)
abbrev sPow : Stmt := topS 4
abbrev sRules : Stmt := topS 5
abbrev sAnsw : Stmt := topS 6
abbrev sAll : Stmt := topS 7
abbrev sHave : Stmt := topS 8
abbrev sGo : Stmt := topS 9
abbrev sClash : Stmt := topS 10
abbrev sAmong : Stmt := topS 11
abbrev sMany : Stmt := topS 12
abbrev sWithin : Stmt := topS 13
theorem scPow : FnScope ["n", "power", "step"] ["n"] (defScope sPow) := ⟨rfl, rfl, rfl, by decide +kernel, rfl, by decide +kernel, by decide +kernel⟩
theorem scRules : FnScope ["m", "ok"] ["m", "ok"] (defScope sRules) := ⟨rfl, rfl, rfl, by decide +kernel, rfl, by decide +kernel, by decide +kernel⟩
theorem scAnsw : FnScope ["m", "a", "b"] ["m", "a", "b"] (defScope sAnsw) := ⟨rfl, rfl, rfl, by decide +kernel, rfl, by decide +kernel, by decide +kernel⟩
theorem scAll : FnScope ["m", "a", "b", "ok"] ["m", "a", "b", "ok"] (defScope sAll) := ⟨rfl, rfl, rfl, by decide +kernel, rfl, by decide +kernel, by decide +kernel⟩
theorem scHave : FnScope ["a", "b", "ok", "row"] ["a", "b", "ok"] (defScope sHave) := ⟨rfl, rfl, rfl, by decide +kernel, rfl, by decide +kernel, by decide +kernel⟩
theorem scGo : FnScope ["a", "b", "ok"] ["a", "b", "ok"] (defScope sGo) := ⟨rfl, rfl, rfl, by decide +kernel, rfl, by decide +kernel, by decide +kernel⟩
theorem scClash : FnScope ["m", "a", "b", "ok", "question", "left_out", "others"] ["m", "a", "b", "ok"] (defScope sClash) := ⟨rfl, rfl, rfl, by decide +kernel, rfl, by decide +kernel, by decide +kernel⟩
theorem scAmong : FnScope ["m", "a", "b", "ok", "found", "part"] ["m", "a", "b", "ok"] (defScope sAmong) := ⟨rfl, rfl, rfl, by decide +kernel, rfl, by decide +kernel, by decide +kernel⟩
theorem scMany : FnScope ["m", "a", "question"] ["m", "a"] (defScope sMany) := ⟨rfl, rfl, rfl, by decide +kernel, rfl, by decide +kernel, by decide +kernel⟩
theorem scWithin : FnScope ["m", "a", "b", "ok", "found", "fewest", "part", "yes", "smallest", "clash"] ["m", "a", "b", "ok"] (defScope sWithin) := ⟨rfl, rfl, rfl, by decide +kernel, rfl, by decide +kernel, by decide +kernel⟩
theorem same_new {H : Hp} {p : Addr} {o : HO} (h : H p = none) : Same H (upd H p o) := fun b x e => by
  rw [upd_ne (ne_of_none e h)]
  exact e
/-- a def that stands in the module: where, what it takes, what its name means -/
structure Dn (K : PySem.W.Frag) (mg : Str → Option Value) (x : Str) (st : Stmt) (ps : List Str) where
  f : Addr
  fd : FuncData
  F : Fun K x x st f fd
  b : Binds K fd ps []
  g : mg x = some (.ref f)
section
variable {P : Program} {w : World} {K : PySem.W.Frag} {mg : Str → Option Value} {base : Heap}
/-! ### lists of new pairs -/
/-- a list of new pairs: each stands for the pair of numbers in its place -/
def Tups (H : Hp) (ts : List V) (cs : List (Nat × Nat)) : Prop := ts.length = cs.length ∧ ∀ (i : Nat) (c : Nat × Nat), cs[i]? = some c → ∃ t, ts[i]? = some (.ref t) ∧ H t = some (.tup [.int c.1, .int c.2])
theorem Tups.mono {H H' : Hp} {ts : List V} {cs : List (Nat × Nat)} (h : Tups H ts cs) (hs : ∀ t x, H t = some (.tup x) → H' t = some (.tup x)) : Tups H' ts cs :=
  ⟨h.1, fun i c e => by
    obtain ⟨t, e1, e2⟩ := h.2 i c e
    exact ⟨t, e1, hs t _ e2⟩⟩
theorem Tups.snoc {H : Hp} {ts : List V} {cs : List (Nat × Nat)} {t : Addr} {c : Nat × Nat} (h : Tups H ts cs) (ht : H t = some (.tup [.int c.1, .int c.2])) : Tups H (ts ++ [.ref t]) (cs ++ [c]) := by
  refine ⟨by rw [List.length_append, List.length_append, h.1]; rfl, fun i d e => ?_⟩
  rcases Nat.lt_or_ge i cs.length with z | z
  · rw [List.getElem?_append_left z] at e
    obtain ⟨u, e1, e2⟩ := h.2 i d e
    exact ⟨u, by rw [List.getElem?_append_left (by rw [h.1]; exact z)]; exact e1, e2⟩
  · rw [List.getElem?_append_right z] at e
    have z2 : i - cs.length = 0 := by
      rcases Nat.eq_zero_or_pos (i - cs.length) with y | y
      · exact y
      · rw [List.getElem?_eq_none (by simp only [List.length_cons, List.length_nil]; omega)] at e
        cases e
    rw [z2] at e
    cases e
    exact ⟨t, by rw [List.getElem?_append_right (by rw [h.1]; exact z), h.1, z2]; rfl, ht⟩
theorem big2000 {n : Nat} (h : n ≤ 2100) : n < sizeLine := Nat.lt_of_le_of_lt h (by decide)
/-! ### two_to_the_power -/
def spPow : Sp := fun vs H Q _ => ∃ n : Int, vs = [.int n] ∧ 0 ≤ n ∧ n ≤ 60 ∧ Q (.int (2 ^ n.toNat)) H
theorem ok_pow {k : Nat} (D : Dn K mg "two_to_the_power" sPow ["n"]) (mr : mg "range" = none) : FnOk P w K mg base CX0 (k + 1) D.f D.fd ["n"] spPow := by
  refine D.F.ok scPow (fun vs H Q E h => ?_) (fun cdv A outer s H vs Q E hr h => ?_)
  · obtain ⟨m, rfl, _⟩ := h
    rfl
  · obtain ⟨m, rfl, h0, h1, q⟩ := h
    refine ⟨_, pss_cons (ps_set (i := 1) scPow.nd rfl (.inl rfl) pe_int)
      (pss_cons (ps_for PassesOwn.never rfl (pi_range1 (by rfl) mr (pa_cons (pv 0) pa_nil)) (pg_name (i := 2) scPow.nd rfl (.inl rfl))
        (pss_one (ps_set (i := 1) scPow.nd rfl (.inl rfl) (pe_op op_mul (pv 1) pe_int))))
      (pss_one (ps_ret (pv 1)))), ?_⟩
    refine ⟨.int m, rfl, m, rfl, by omega, by omega, for_range (lo := 0) (n := m.toNat) (fun i σ H' => ∃ y, σ = [some (.int m), some (.int (2 ^ i)), y] ∧ H' = H) ⟨none, rfl, rfl⟩ ?_ ?_⟩
    · rintro i σ H' hi ⟨y, rfl, rfl⟩
      have b1 : (2 : Int) ^ i < 2 ^ 64 := by
        rw [← pow_cast, ← pow_cast]
        exact Int.ofNat_lt.mpr (Nat.pow_lt_pow_right (by decide) (by omega))
      have b0 : (0 : Int) < 2 ^ i := Int.pow_pos (by decide)
      refine ⟨_, rfl, _, _, rfl, rfl, .inl ⟨by omega, b1⟩, ?_⟩
      refine ⟨some (.int (0 + i)), ?_, rfl⟩
      rw [Int.pow_succ]
      rfl
    · rintro σ H' ⟨y, rfl, rfl⟩
      exact ⟨_, rfl, q⟩
/-! ### rules_are_right -/
def spRules (K : PySem.W.Frag) : Sp := fun vs H Q _ => ∃ (m : Int) (l : Addr) (ns : List Int), vs = [.int m, .ref l] ∧ SqL K H l (ns.map V.int) ∧ ns.length ≤ 40 ∧
  ∀ r : Bool, (r = true ↔ OkR m ns) → Q (.bl r) H
theorem ok_rules {k : Nat} (D : Dn K mg "rules_are_right" sRules ["m", "ok"]) (DP : Dn K mg "two_to_the_power" sPow ["n"])
    {tM : Tok} (gM : mg "MOST_QUESTIONS" = some (.int 5 tM)) (mr : mg "range" = none) (ml : mg "len" = none) (mx : mg "max" = none) (ms : mg "set" = none) :
    FnOk P w K mg base CX0 (k + 1 + 1) D.f D.fd ["m", "ok"] (spRules K) := by
  have GR : FnOk P w K mg base CX0 (k + 1) DP.f DP.fd ["n"] spPow := ok_pow DP mr
  refine D.F.ok scRules (fun vs H Q E h => ?_) (fun cdv A outer s H vs Q E hr h => ?_)
  · obtain ⟨m, l, ns, rfl, _⟩ := h
    rfl
  · obtain ⟨m, l, ns, rfl, hS, hl, q⟩ := h
    refine ⟨_, pss_cons (ps_if (PW.pt (pw_or (pt_cmpR op_lt (pv 0) pe_int (nomark _)) (pw_or1 (pt_cmpR op_gt (pv 0) (pe_glob (v := .int 5) rfl gM ⟨_, rfl⟩) (nomark _))))) (pss_one (ps_ret pe_bl)) pss_nil)
      (pss_cons (ps_if (PW.pt (pw_or (pt_cmpR op_eq (pe_callB call_len_seq (by rfl) ml PySem.boot_len (pa_cons (pv 1) pa_nil)) pe_int (nomark _))
          (pw_or1 (pt_cmpR op_ge (pe_callB (cr_max rfl) (by rfl) mx (by decide +kernel) (pa_cons (pv 1) pa_nil)) (pe_call GR hr (by rfl) DP.g DP.F.kp DP.b .nil pass0 (pa_cons (pv 0) pa_nil)) (nomark _)))))
        (pss_one (ps_ret pe_bl)) pss_nil)
      (pss_one (ps_ret (pe_cmpR op_eq (pe_lenSetA (by rfl) ml (by rfl) ms (pv 1)) (pe_callB call_len_seq (by rfl) ml PySem.boot_len (pa_cons (pv 1) pa_nil)) (nomark _))))), ?_⟩
    -- m < 1 or m > MOST_QUESTIONS
    refine ⟨.int m, rfl, m, 1, rfl, rfl, _, rfl, ite2 (fun e => ?_) (fun e => ?_)⟩
    · have e1 := of_decide_eq_true e
      refine iteT (q _ ⟨fun z => (Bool.noConfusion z), fun z => ?_⟩)
      have := z.1.1
      omega
    have e1 : ¬ m < 1 := fun z => e (decide_eq_true z)
    refine ⟨.int m, rfl, m, 5, rfl, rfl, _, rfl, ite2 (fun e => ?_) (fun e => ?_)⟩
    · have e2 := of_decide_eq_true e
      refine q _ ⟨fun z => (Bool.noConfusion z), fun z => ?_⟩
      have := z.1.2
      omega
    have e2 : ¬ 5 < m := fun z => e (decide_eq_true z)
    -- len(ok) == 0 or max(ok) >= two_to_the_power(m)
    refine ⟨.ref l, rfl, l, ns.map V.int, rfl, .inl hS, rfl, _, rfl, ite2 (fun e => ?_) (fun e => ?_)⟩
    · have e3 : ((ns.map V.int).length : Int) = 0 := V.int.inj (of_decide_eq_true e)
      rw [List.length_map] at e3
      refine iteT (q _ ⟨fun z => (Bool.noConfusion z), fun z => ?_⟩)
      exact absurd (List.eq_nil_of_length_eq_zero (by omega)) z.2.1
    have e3 : 0 < ns.length := by
      rcases Nat.eq_zero_or_pos ns.length with z | z
      · refine absurd (decide_eq_true ?_) e
        rw [List.length_map, z]
        rfl
      · exact z
    refine ⟨.ref l, rfl, l, ns, rfl, hS, e3, fun g hg hle => ?_⟩
    refine ⟨.int m, rfl, m, rfl, by omega, by omega, g, _, rfl, rfl, _, rfl, ite2 (fun e => ?_) (fun e => ?_)⟩
    · have e4 := of_decide_eq_true e
      refine q _ ⟨fun z => (Bool.noConfusion z), fun z => ?_⟩
      have := z.2.2.1 g hg
      omega
    have e4 : ¬ (2 : Int) ^ m.toNat ≤ g := fun z => e (decide_eq_true z)
    -- len(set(ok)) == len(ok)
    refine ⟨.ref l, rfl, l, ns, rfl, hS, by omega, fun n hn => ?_⟩
    refine ⟨.ref l, rfl, l, ns.map V.int, rfl, .inl hS, rfl, ?_⟩
    refine q _ ?_
    rw [List.length_map, decide_eq_true_iff]
    constructor
    · intro z
      have z1 : (n : Int) = ns.length := V.int.inj z
      refine ⟨⟨by omega, by omega⟩, fun y => ?_, fun x hx => ?_, hn.mp (by omega)⟩
      · rw [y] at e3
        cases e3
      · have := hle x hx
        omega
    · intro z
      rw [hn.mpr z.2.2.2]
/-! ### answers_are_right -/
def spAnsw : Sp := fun vs H Q _ => ∃ m a b : Int, vs = [.int m, .int a, .int b] ∧ 0 ≤ m ∧ m ≤ 60 ∧ 0 ≤ a ∧ 0 ≤ b ∧ ∀ r : Bool, (r = true ↔ OkA m a b) → Q (.bl r) H
theorem ok_answ {k : Nat} (D : Dn K mg "answers_are_right" sAnsw ["m", "a", "b"]) (DP : Dn K mg "two_to_the_power" sPow ["n"]) (mr : mg "range" = none) :
    FnOk P w K mg base CX0 (k + 1 + 1) D.f D.fd ["m", "a", "b"] spAnsw := by
  have GR : FnOk P w K mg base CX0 (k + 1) DP.f DP.fd ["n"] spPow := ok_pow DP mr
  refine D.F.ok scAnsw (fun vs H Q E h => ?_) (fun cdv A outer s H vs Q E hr h => ?_)
  · obtain ⟨m, a, b, rfl, _⟩ := h
    rfl
  · obtain ⟨m, a, b, rfl, h0, h1, ha, hb, q⟩ := h
    refine ⟨_, pss_one (ps_ret (pe_and (pe_cmpR op_lt (pv 1) (pe_call GR hr (by rfl) DP.g DP.F.kp DP.b .nil pass0 (pa_cons (pv 0) pa_nil)) (nomark _))
      (pe_one (pe_cmpR op_eq (pe_op op_and (pv 1) (pv 2)) (pv 2) (nomark _))))), ?_⟩
    refine ⟨.int a, rfl, .int m, rfl, m, rfl, h0, h1, a, _, rfl, rfl, _, rfl, ite2 (fun e => ?_) (fun e => ?_)⟩
    · have e1 := of_decide_eq_true e
      refine ⟨.int a, rfl, .int b, rfl, a, b, rfl, rfl, .int b, rfl, rfl, ?_⟩
      refine q _ ?_
      show decide (V.int (Builtin.bitAnd a b) = V.int b) = true ↔ OkA m a b
      rw [bitAnd_pp ha hb, decide_eq_true_iff]
      constructor
      · exact fun z => ⟨e1, V.int.inj z⟩
      · exact fun z => congrArg V.int z.2
    · refine q _ ⟨fun z => Bool.noConfusion z, fun z => ?_⟩
      exact absurd (decide_eq_true z.1) e
/-! ### all_is_right -/
def spAll (K : PySem.W.Frag) : Sp := fun vs H Q _ => ∃ (m a b : Int) (l : Addr) (ns : List Int), vs = [.int m, .int a, .int b, .ref l] ∧ SqL K H l (ns.map V.int) ∧ ns.length ≤ 40 ∧ 0 ≤ a ∧ 0 ≤ b ∧
  ∀ r : Bool, (r = true ↔ OkR m ns ∧ OkA m a b) → Q (.bl r) H
theorem ok_all {k : Nat} (D : Dn K mg "all_is_right" sAll ["m", "a", "b", "ok"]) (DP : Dn K mg "two_to_the_power" sPow ["n"]) (DU : Dn K mg "rules_are_right" sRules ["m", "ok"]) (DA : Dn K mg "answers_are_right" sAnsw ["m", "a", "b"])
    {tM : Tok} (gM : mg "MOST_QUESTIONS" = some (.int 5 tM)) (mr : mg "range" = none) (ml : mg "len" = none) (mx : mg "max" = none) (ms : mg "set" = none) :
    FnOk P w K mg base CX0 (k + 1 + 1 + 1) D.f D.fd ["m", "a", "b", "ok"] (spAll K) := by
  have GU : FnOk P w K mg base CX0 (k + 1 + 1) DU.f DU.fd ["m", "ok"] (spRules K) := ok_rules DU DP gM mr ml mx ms
  have GA : FnOk P w K mg base CX0 (k + 1 + 1) DA.f DA.fd ["m", "a", "b"] spAnsw := ok_answ DA DP mr
  refine D.F.ok scAll (fun vs H Q E h => ?_) (fun cdv A outer s H vs Q E hr h => ?_)
  · obtain ⟨m, a, b, l, ns, rfl, _⟩ := h
    rfl
  · obtain ⟨m, a, b, l, ns, rfl, hS, hl, ha, hb, q⟩ := h
    refine ⟨_, pss_one (ps_ret (pe_and (pe_call GU hr (by rfl) DU.g DU.F.kp DU.b .nil pass0 (pa_cons (pv 0) (pa_cons (pv 3) pa_nil)))
      (pe_one (pe_call GA hr (by rfl) DA.g DA.F.kp DA.b .nil pass0 (pa_cons (pv 0) (pa_cons (pv 1) (pa_cons (pv 2) pa_nil))))))), ?_⟩
    refine ⟨.int m, rfl, .ref l, rfl, m, l, ns, rfl, hS, hl, fun r hr1 => ⟨r, rfl, ?_⟩⟩
    cases r with
    | false =>
      refine iteF (q _ ⟨fun z => Bool.noConfusion z, fun z => ?_⟩)
      exact Bool.noConfusion (hr1.mpr z.1)
    | true =>
      have hR := hr1.mp rfl
      have := hR.1.1
      have := hR.1.2
      refine iteT ⟨.int m, rfl, .int a, rfl, .int b, rfl, m, a, b, rfl, by omega, by omega, ha, hb, fun r hr2 => ?_⟩
      exact q r ⟨fun z => ⟨hR, hr2.mp z⟩, fun z => hr2.mpr z.2⟩
/-! ### rows_that_have -/
def spHave (K : PySem.W.Frag) : Sp := fun vs H Q _ => ∃ (a b : Int) (l : Addr) (ns : List Int), vs = [.int a, .int b, .ref l] ∧ SqL K H l (ns.map V.int) ∧ ns.length ≤ 40 ∧ 0 ≤ a ∧ (∀ x ∈ ns, 0 ≤ x) ∧
  ∀ (H' : Hp) (p : Addr) (zs : List Int), Same H H' → H p = none → H' p = some (.lst (zs.map V.int)) → zs.Perm (having a b ns) → zs.Pairwise (· ≤ ·) → Q (.ref p) H'
theorem having_take {a b : Int} {ns : List Int} {i : Nat} {z : Int} (h : ns[i]? = some z) :
    having a b (ns.take (i + 1)) = having a b (ns.take i) ++ if land z a = b then [z] else [] := by
  unfold having
  rw [List.take_add_one, h, List.filter_append]
  congr 1
  show List.filter _ [z] = _
  by_cases c : land z a = b
  · rw [if_pos c]
    exact List.filter_cons_of_pos (decide_eq_true c)
  · rw [if_neg c]
    exact List.filter_cons_of_neg (by rw [decide_eq_true_iff]; exact c)
theorem ok_have {k : Nat} (D : Dn K mg "rows_that_have" sHave ["a", "b", "ok"]) (ms : mg "sorted" = none) : FnOk P w K mg base CX0 (k + 1) D.f D.fd ["a", "b", "ok"] (spHave K) := by
  refine D.F.ok scHave (fun vs H Q E h => ?_) (fun cdv A outer s H vs Q E hr h => ?_)
  · obtain ⟨a, b, l, ns, rfl, _⟩ := h
    rfl
  · obtain ⟨a, b, l, ns, rfl, hS, hl, ha, h0, q⟩ := h
    refine ⟨_, pss_one (ps_ret (pe_callB cr_sorted (by rfl) ms (by decide +kernel) (pa_cons
      (pe_lc (own := [("row", 3)]) (g := gName 3) rfl scHave.nd (pi_list (pv 2)) (blkOk_by (N := ["a", "b", "ok", "row"]) (sc := defScope sHave) (by decide +kernel))
        (fun _ _ _ _ _ => pg_name (i := 3) scHave.nd rfl (Or.inl rfl)) (fun _ _ _ _ _ => pts_one (pt_cmpR op_eq (pe_op op_and (pv 3) (pv 0)) (pv 1) (nomark _))) (fun _ _ _ _ _ => pv 3)) pa_nil))), ?_⟩
    refine ⟨.ref l, rfl, l, rfl, ⟨_, hS⟩, fun D nD => ?_⟩
    refine lc_list (K := K) (a := l) (xs := ns.map V.int) (fun i H' => Same H H' ∧ H' D = some (.lst ((having a b (ns.take i)).map V.int))) ⟨same_new nD, upd_same⟩ (fun i H' _ p => p.1.seq hS) ?_ ?_
    · rintro i y H' hi ⟨s1, eD⟩
      obtain ⟨z, hz, rfl⟩ : ∃ z, ns[i]? = some z ∧ y = V.int z := by
        rw [List.getElem?_map] at hi
        cases e : ns[i]? with
        | none =>
          rw [e] at hi
          cases hi
        | some z =>
          rw [e] at hi
          exact ⟨z, rfl, (Option.some.inj hi).symm⟩
      have z0 : 0 ≤ z := h0 z (List.mem_of_getElem? hz)
      have st := having_take (a := a) (b := b) hz
      refine ⟨rfl, .int z, rfl, .int a, rfl, z, a, rfl, rfl, .int b, rfl, rfl, _, rfl, ?_⟩
      have eb : Builtin.bitAnd z a = land z a := bitAnd_pp z0 ha
      refine ite2 (c := decide (V.int (Builtin.bitAnd z a) = V.int b) = true) (fun e => ?_) (fun e => ?_)
      · have e1 : land z a = b := eb.symm.trans (V.int.inj (of_decide_eq_true e))
        rw [if_pos e1] at st
        refine ⟨.int z, rfl, _, eD, ?_, fun c o e => ?_, ?_⟩
        · rw [List.length_map]
          refine small1000 (Nat.le_trans (List.length_filter_le _ _) ?_)
          rw [List.length_take]
          omega
        · rw [upd_ne (ne_of_none e nD)]
          exact s1 _ _ e
        · rw [st, List.map_append]
          exact upd_same
      · have e1 : ¬ land z a = b := fun z => e (decide_eq_true (congrArg V.int (eb.trans z)))
        rw [if_neg e1, List.append_nil] at st
        rw [st]
        exact ⟨s1, eD⟩
    · rintro H' ⟨s1, eD⟩
      rw [List.length_map, List.take_length] at eD
      have hlen : (having a b ns).length ≤ 40 := Nat.le_trans (List.length_filter_le _ _) hl
      refine ⟨D, having a b ns, rfl, .inl (.inl eD), by omega, fun zs p pm ri np => ?_⟩
      exact q _ p zs (s1.trans (same_new np)) (s1.free np) upd_same pm ri
/-! ### they_go_together -/
def spGo (K : PySem.W.Frag) : Sp := fun vs H Q _ => ∃ (a b : Int) (l : Addr) (ns : List Int), vs = [.int a, .int b, .ref l] ∧ SqL K H l (ns.map V.int) ∧ ns.length ≤ 40 ∧ 0 ≤ a ∧ (∀ x ∈ ns, 0 ≤ x) ∧
  ∀ (r : Bool) (H' : Hp), Same H H' → (r = true ↔ GoI a b ns) → Q (.bl r) H'
theorem ok_go {k : Nat} (D : Dn K mg "they_go_together" sGo ["a", "b", "ok"]) (DH : Dn K mg "rows_that_have" sHave ["a", "b", "ok"]) (ml : mg "len" = none) (mo : mg "sorted" = none) :
    FnOk P w K mg base CX0 (k + 1 + 1) D.f D.fd ["a", "b", "ok"] (spGo K) := by
  have GH : FnOk P w K mg base CX0 (k + 1) DH.f DH.fd ["a", "b", "ok"] (spHave K) := ok_have DH mo
  refine D.F.ok scGo (fun vs H Q E h => ?_) (fun cdv A outer s H vs Q E hr h => ?_)
  · obtain ⟨a, b, l, ns, rfl, _⟩ := h
    rfl
  · obtain ⟨a, b, l, ns, rfl, hS, hl, ha, h0, q⟩ := h
    refine ⟨_, pss_one (ps_ret (pe_cmpR op_gt (pe_callB call_len_seq (by rfl) ml PySem.boot_len (pa_cons
      (pe_call GH hr (by rfl) DH.g DH.F.kp DH.b .nil pass0 (pa_cons (pv 0) (pa_cons (pv 1) (pa_cons (pv 2) pa_nil)))) pa_nil)) pe_int (nomark _))), ?_⟩
    refine ⟨.int a, rfl, .int b, rfl, .ref l, rfl, a, b, l, ns, rfl, hS, hl, ha, h0, fun H1 p zs s1 np ep pm ri => ?_⟩
    refine ⟨p, _, rfl, .inl (SqL.of ep), _, _, rfl, rfl, ?_⟩
    refine q _ H1 s1 ?_
    rw [decide_eq_true_iff, List.length_map, pm.length_eq, ← having_pos]
    omega
/-! ### is_clash -/
def spClash (K : PySem.W.Frag) : Sp := fun vs H Q _ => ∃ (m a b : Int) (l : Addr) (ns : List Int), vs = [.int m, .int a, .int b, .ref l] ∧ SqL K H l (ns.map V.int) ∧ ns.length ≤ 40 ∧ 0 ≤ m ∧ m ≤ 60 ∧ 0 ≤ a ∧ 0 ≤ b ∧ (∀ x ∈ ns, 0 ≤ x) ∧
  ∀ (r : Bool) (H' : Hp), Same H H' → (r = true ↔ ClashI m a b ns) → Q (.bl r) H'
theorem ok_clash {k : Nat} (D : Dn K mg "is_clash" sClash ["m", "a", "b", "ok"]) (DP : Dn K mg "two_to_the_power" sPow ["n"]) (DH : Dn K mg "rows_that_have" sHave ["a", "b", "ok"]) (DG : Dn K mg "they_go_together" sGo ["a", "b", "ok"])
    (mr : mg "range" = none) (ml : mg "len" = none) (mo : mg "sorted" = none) : FnOk P w K mg base CX0 (k + 1 + 1 + 1) D.f D.fd ["m", "a", "b", "ok"] (spClash K) := by
  have GP : FnOk P w K mg base CX0 (k + 1 + 1) DP.f DP.fd ["n"] spPow := ok_pow DP mr
  have GG : FnOk P w K mg base CX0 (k + 1 + 1) DG.f DG.fd ["a", "b", "ok"] (spGo K) := ok_go DG DH ml mo
  refine D.F.ok scClash (fun vs H Q E h => ?_) (fun cdv A outer s H vs Q E hr h => ?_)
  · obtain ⟨m, a, b, l, ns, rfl, _⟩ := h
    rfl
  · obtain ⟨m, a, b, l, ns, rfl, hS, hl, hm0, hm1, ha, hb, h0, q⟩ := h
    refine ⟨_, pss_cons (ps_if (pt_val (pe_call GG hr (by rfl) DG.g DG.F.kp DG.b .nil pass0 (pa_cons (pv 1) (pa_cons (pv 2) (pa_cons (pv 3) pa_nil))))) (pss_one (ps_ret pe_bl)) pss_nil)
      (pss_cons (ps_for PassesOwn.never rfl (pi_range1 (by rfl) mr (pa_cons (pv 0) pa_nil)) (pg_name (i := 4) scClash.nd rfl (.inl rfl))
        (pss_cons (ps_set (i := 5) scClash.nd rfl (.inl rfl) (pe_call GP hr (by rfl) DP.g DP.F.kp DP.b .nil pass0 (pa_cons (pv 4) pa_nil)))
        (pss_one (ps_if (pt_cmpR op_ne (pe_op op_and (pv 1) (pv 5)) pe_int (nomark _))
          (pss_cons (ps_set (i := 6) scClash.nd rfl (.inl rfl) (pe_op op_sub (pv 1) (pv 5)))
          (pss_one (ps_if (pt_not (pt_val (pe_call GG hr (by rfl) DG.g DG.F.kp DG.b .nil pass0 (pa_cons (pv 6) (pa_cons (pe_op op_and (pv 2) (pv 6)) (pa_cons (pv 3) pa_nil)))))) (pss_one (ps_ret pe_bl)) pss_nil)))
          pss_nil))))
      (pss_one (ps_ret pe_bl))), ?_⟩
    refine ⟨.int a, rfl, .int b, rfl, .ref l, rfl, a, b, l, ns, rfl, hS, hl, ha, h0, fun r H1 s1 hr1 => ⟨r, rfl, ?_⟩⟩
    cases r with
    | true =>
      refine iteT (q _ H1 s1 ⟨fun z => Bool.noConfusion z, fun z => ?_⟩)
      exact absurd (hr1.mp rfl) z.1
    | false =>
      refine iteF ?_
      have n1 : ¬ GoI a b ns := fun z => Bool.noConfusion (hr1.mpr z)
      refine ⟨.int m, rfl, m, rfl, by omega, by omega, for_range (lo := 0) (n := m.toNat) (fun i σ H' => ∃ y4 y5 y6, σ = [some (.int m), some (.int a), some (.int b), some (.ref l), y4, y5, y6] ∧ Same H H' ∧
        ∀ j : Nat, j < i → land a (2 ^ j) ≠ 0 → GoI (a - 2 ^ j) (land b (a - 2 ^ j)) ns) ⟨none, none, none, rfl, s1, fun j hj => absurd hj (Nat.not_lt_zero j)⟩ ?_ ?_⟩
      · rintro i σ H' hi ⟨y4, y5, y6, rfl, s2, inv⟩
        have ei : (0 + (i : Int)).toNat = i := by omega
        have p0 : (0 : Int) ≤ 2 ^ i := Int.le_of_lt (Int.pow_pos (by decide))
        refine ⟨.int (0 + i), rfl, 0 + i, rfl, by omega, by omega, ?_⟩
        rw [ei]
        refine ⟨.int a, rfl, .int (2 ^ i), rfl, a, 2 ^ i, rfl, rfl, rfl, _, rfl, ?_⟩
        have eb : Builtin.bitAnd a (2 ^ i) = land a (2 ^ i) := bitAnd_pp ha p0
        refine ite2 (fun e => ?_) (fun e => ?_)
        · have e1 : land a (2 ^ i) ≠ 0 := fun z => by
            have e : (!decide (V.int (Builtin.bitAnd a (2 ^ i)) = V.int 0)) = true := e
            rw [eb, z, decide_eq_true rfl] at e
            exact Bool.noConfusion e
          have o0 : 0 ≤ a - 2 ^ i := by
            have := land_pow_le ha e1
            omega
          refine ⟨.int a, rfl, .int (2 ^ i), rfl, a, 2 ^ i, rfl, rfl, ?_⟩
          refine ⟨.int (a - 2 ^ i), rfl, .int b, rfl, .int (a - 2 ^ i), rfl, b, a - 2 ^ i, rfl, rfl, .ref l, rfl, a - 2 ^ i, _, l, ns, rfl, s2.seq hS, hl, o0, h0, fun r H2 s3 hr2 => ⟨r, rfl, ?_⟩⟩
          have eb2 : Builtin.bitAnd b (a - 2 ^ i) = land b (a - 2 ^ i) := bitAnd_pp hb o0
          cases r with
          | false =>
            refine iteT (q _ H2 (s2.trans s3) ⟨fun z => Bool.noConfusion z, fun z => ?_⟩)
            refine Bool.noConfusion (hr2.mpr ?_)
            show GoI (a - 2 ^ i) (Builtin.bitAnd b (a - 2 ^ i)) ns
            rw [eb2]
            exact z.2 i hi e1
          | true =>
            refine iteF ⟨_, _, _, rfl, s2.trans s3, fun j hj hn => ?_⟩
            have g := hr2.mp rfl
            rcases Nat.lt_succ_iff_lt_or_eq.mp hj with z | z
            · exact inv j z hn
            · subst z
              have g : GoI (a - 2 ^ j) (Builtin.bitAnd b (a - 2 ^ j)) ns := g
              rw [eb2] at g
              exact g
        · have e1 : land a (2 ^ i) = 0 := by
            have e : ¬ (!decide (V.int (Builtin.bitAnd a (2 ^ i)) = V.int 0)) = true := e
            rw [eb, Bool.not_eq_true', decide_eq_false_iff_not] at e
            exact V.int.inj (Classical.not_not.mp e)
          refine ⟨_, _, _, rfl, s2, fun j hj hn => ?_⟩
          rcases Nat.lt_succ_iff_lt_or_eq.mp hj with z | z
          · exact inv j z hn
          · subst z
            exact absurd e1 hn
      · rintro σ H' ⟨y4, y5, y6, rfl, s2, inv⟩
        exact q _ H' s2 ⟨fun _ => ⟨n1, inv⟩, fun _ => rfl⟩
/-! ### clashes_among -/
def spAmong (K : PySem.W.Frag) : Sp := fun vs H Q _ => ∃ (m a b : Int) (l : Addr) (ns : List Int), vs = [.int m, .int a, .int b, .ref l] ∧ SqL K H l (ns.map V.int) ∧ ns.length ≤ 40 ∧ 0 ≤ a ∧ 0 ≤ b ∧ (∀ x ∈ ns, 0 ≤ x) ∧ OkR m ns ∧ OkA m a b ∧
  ∀ (H' : Hp) (p : Addr) (ts : List V), Same H H' → H p = none → H' p = some (.lst ts) → Tups H' ts (inside m.toNat (Kzi2Neutral.natsOf ns) a.toNat b.toNat) → ts.length ≤ 32 → Q (.ref p) H'
theorem ok_among {k : Nat} (D : Dn K mg "clashes_among" sAmong ["m", "a", "b", "ok"]) (DP : Dn K mg "two_to_the_power" sPow ["n"]) (DH : Dn K mg "rows_that_have" sHave ["a", "b", "ok"]) (DG : Dn K mg "they_go_together" sGo ["a", "b", "ok"])
    (DC : Dn K mg "is_clash" sClash ["m", "a", "b", "ok"]) (mr : mg "range" = none) (ml : mg "len" = none) (mo : mg "sorted" = none) : FnOk P w K mg base CX0 (k + 1 + 1 + 1 + 1) D.f D.fd ["m", "a", "b", "ok"] (spAmong K) := by
  have GC : FnOk P w K mg base CX0 (k + 1 + 1 + 1) DC.f DC.fd ["m", "a", "b", "ok"] (spClash K) := ok_clash DC DP DH DG mr ml mo
  refine D.F.ok scAmong (fun vs H Q E h => ?_) (fun cdv A outer s H vs Q E hr h => ?_)
  · obtain ⟨m, a, b, l, ns, rfl, _⟩ := h
    rfl
  · obtain ⟨m, a, b, l, ns, rfl, hS, hl, ha, hb, h0, hR, hA, q⟩ := h
    refine ⟨_, pss_cons (ps_set (i := 4) scAmong.nd rfl (.inl rfl) (pe_lst pa_nil))
      (pss_cons (ps_for PassesOwn.never rfl (pi_range1 (by rfl) mr (pa_cons (pe_op op_add (pv 1) pe_int) pa_nil)) (pg_name (i := 5) scAmong.nd rfl (.inl rfl))
        (pss_one (ps_if (PW.pt (pw_and (pt_cmpR op_eq (pe_op op_and (pv 5) (pv 1)) (pv 5) (nomark _))
              (pw_and1 (pt_val (pe_call GC hr (by rfl) DC.g DC.F.kp DC.b .nil pass0 (pa_cons (pv 0) (pa_cons (pv 5) (pa_cons (pe_op op_and (pv 5) (pv 2)) (pa_cons (pv 3) pa_nil)))))))))
            (pss_one (ps_expr (pe_bm PySem.F.plainAttrs_list PySem.F.slot_list_append PySem.F.type_list_append mt_append (pv 4) (pa_cons (pe_tup (pa_cons (pv 5) (pa_cons (pe_op op_and (pv 5) (pv 2)) pa_nil))) pa_nil))))
            pss_nil)))
      (pss_one (ps_ret (pv 4)))), ?_⟩
    obtain ⟨u, rfl⟩ := Int.eq_ofNat_of_zero_le ha
    obtain ⟨v, rfl⟩ := Int.eq_ofNat_of_zero_le hb
    have hm1 := hR.1.1
    have hm2 := hR.1.2
    have p32 : (2 : Nat) ^ m.toNat ≤ 32 := Nat.pow_le_pow_right (by decide) (by omega : m.toNat ≤ 5)
    have hu : u < 2 ^ m.toNat := (lt_pow_nat ha _).mpr hA.1
    refine ⟨by show 0 ≤ sizeLine; exact Nat.zero_le _, fun D nD => ?_⟩
    refine ⟨.int u, rfl, u, 1, rfl, rfl, (u : Int) + 1, rfl, by omega, by omega, ?_⟩
    refine for_range (lo := 0) (n := ((u : Int) + 1).toNat) (fun i σ H' => ∃ y5 ts, σ = [some (.int m), some (.int u), some (.int v), some (.ref l), some (.ref D), y5] ∧ Same H H' ∧ H' D = some (.lst ts) ∧ Tups H' ts (parts m.toNat (Kzi2Neutral.natsOf ns) u v i))
      ⟨none, [], rfl, same_new nD, upd_same, rfl, fun i c e => nomatch e⟩ ?_ ?_
    · rintro i σ H' hi ⟨y5, ts, rfl, s2, eD2, tu2⟩
      have hi2 : i ≤ u := by omega
      have ei : (0 + (i : Int)) = (i : Int) := by omega
      have key := part_iff (m := m) (ns := ns) (a := u) (b := v) (p := i) h0 hR (by omega)
      have st := parts_succ m.toNat (Kzi2Neutral.natsOf ns) u v i
      have tl : ts.length ≤ 2000 := by
        rw [tu2.1]
        have a1 := parts_len m.toNat (Kzi2Neutral.natsOf ns) u v i
        omega
      refine ⟨.int (0 + i), rfl, .int u, rfl, 0 + i, u, rfl, rfl, .int (0 + i), rfl, rfl, _, rfl, ?_⟩
      have eb : Builtin.bitAnd (0 + (i : Int)) (u : Int) = land i u := by
        rw [ei]
        exact bitAnd_pp (by omega) (by omega)
      have eb2 : Builtin.bitAnd (0 + (i : Int)) (v : Int) = land i v := by
        rw [ei]
        exact bitAnd_pp (by omega) (by omega)
      have ev : land (i : Int) (v : Int) = ((i &&& v : Nat) : Int) := by
        unfold land
        rw [Int.toNat_natCast, Int.toNat_natCast]
      refine ite2 (c := decide (V.int (Builtin.bitAnd (0 + (i : Int)) (u : Int)) = V.int (0 + (i : Int))) = true) (fun e => ?_) (fun e => ?_)
      · have e1 : land i u = i := by
          have := V.int.inj (of_decide_eq_true e)
          rw [eb, ei] at this
          exact this
        refine ⟨.int m, rfl, .int (0 + i), rfl, .int (0 + i), rfl, .int v, rfl, 0 + i, v, rfl, rfl, .ref l, rfl, m, 0 + i, Builtin.bitAnd (0 + (i : Int)) (v : Int), l, ns, rfl, s2.seq hS, hl, by omega, by omega, by omega, by rw [eb2, ev]; omega, h0, fun r H2 s3 hr2 => ⟨r, rfl, ?_⟩⟩
        rw [eb2, ei] at hr2
        have eD3 := s3 _ _ eD2
        cases r with
        | true =>
          refine iteT ?_
          rw [if_pos (key.mp ⟨e1, hr2.mp rfl⟩)] at st
          refine ⟨.ref D, rfl, .inl ⟨rfl, _, SqL.of eD3⟩, .int (0 + i), rfl, .int (0 + i), rfl, .int v, rfl, 0 + i, v, rfl, rfl, by show 2 ≤ sizeLine; decide, fun t nt => ?_⟩
          have nDt : D ≠ t := ne_of_none eD3 nt
          refine ⟨D, ts, .ref t, rfl, rfl, by rw [upd_ne nDt]; exact eD3, big2000 (by omega), ?_⟩
          refine ⟨_, ts ++ [.ref t], rfl, fun b x e => ?_, upd_same, ?_⟩
          · have x1 := (s2.trans s3) _ _ e
            rw [upd_ne (ne_of_none e nD), upd_ne (ne_of_none x1 nt)]
            exact x1
          · rw [st]
            refine Tups.snoc (c := (i, i &&& v)) (tu2.mono fun u x hu => ?_) ?_
            · have x1 := s3 _ _ hu
              rw [upd_ne (ne_of x1 eD3 (by intro z; cases z)), upd_ne (ne_of_none x1 nt)]
              exact x1
            · rw [upd_ne (Ne.symm nDt), upd_same]
              show some (HO.tup [V.int (0 + (i : Int)), V.int (Builtin.bitAnd (0 + (i : Int)) (v : Int))]) = _
              rw [eb2, ev, ei]
        | false =>
          refine iteF ?_
          rw [if_neg (fun z => Bool.noConfusion (hr2.mpr (key.mpr z).2)), List.append_nil] at st
          refine ⟨_, ts, rfl, s2.trans s3, eD3, ?_⟩
          rw [st]
          exact tu2.mono fun u x hu => s3 _ _ hu
      · have e1 : ¬ land i u = i := fun z => e (decide_eq_true (by rw [eb, z, ei]))
        rw [if_neg (fun z => e1 (key.mpr z).1), List.append_nil] at st
        refine ⟨_, ts, rfl, s2, eD2, ?_⟩
        rw [st]
        exact tu2
    · rintro σ H' ⟨y5, ts, rfl, s1, eD, tu⟩
      have en : ((u : Int) + 1).toNat = u + 1 := by omega
      have pl := parts_len m.toNat (Kzi2Neutral.natsOf ns) u v (u + 1)
      rw [en] at tu
      have tl := tu.1
      rw [parts_all hu] at tu
      exact ⟨_, rfl, q H' D ts s1 nD eD tu (by omega)⟩
/-! ### how_many_questions -/
def spMany : Sp := fun vs H Q _ => ∃ (m : Int) (a : Nat), vs = [.int m, .int a] ∧ 0 ≤ m ∧ m ≤ 60 ∧ ∀ H' : Hp, Same H H' → Q (.int (Kzi2.size m.toNat a : Nat)) H'
/-- the questions of a among the first i -/
def among (a i : Nat) : List Int := ((List.range i).filter (Kzi1.bit a)).map fun (x : Nat) => (x : Int)
theorem among_succ (a i : Nat) : among a (i + 1) = among a i ++ if a.testBit i = true then [(i : Int)] else [] := by
  unfold among
  rw [List.range_succ, List.filter_append, List.map_append]
  congr 1
  by_cases c : a.testBit i = true
  · rw [if_pos c, List.filter_cons_of_pos (by rw [bit_test]; exact c)]
    rfl
  · rw [if_neg c, List.filter_cons_of_neg (by rw [bit_test]; exact c)]
    rfl
theorem among_len (a i : Nat) : (among a i).length ≤ i := by
  unfold among
  rw [List.length_map]
  exact Nat.le_trans (List.length_filter_le _ _) (Nat.le_of_eq List.length_range)
theorem ok_many {k : Nat} (D : Dn K mg "how_many_questions" sMany ["m", "a"]) (DP : Dn K mg "two_to_the_power" sPow ["n"]) (mr : mg "range" = none) (ml : mg "len" = none) :
    FnOk P w K mg base CX0 (k + 1 + 1) D.f D.fd ["m", "a"] spMany := by
  have GP : FnOk P w K mg base CX0 (k + 1) DP.f DP.fd ["n"] spPow := ok_pow DP mr
  refine D.F.ok scMany (fun vs H Q E h => ?_) (fun cdv A outer s H vs Q E hr h => ?_)
  · obtain ⟨m, a, rfl, _⟩ := h
    rfl
  · obtain ⟨m, a, rfl, h0, h1, q⟩ := h
    refine ⟨_, pss_one (ps_ret (pe_callB call_len_seq (by rfl) ml PySem.boot_len (pa_cons
      (pe_lc (own := [("question", 2)]) (g := gName 2) rfl scMany.nd (pi_range1 (by rfl) mr (pa_cons (pv 0) pa_nil)) (blkOk_by (N := ["m", "a", "question"]) (sc := defScope sMany) (by decide +kernel))
        (fun _ _ _ _ _ => pg_name (i := 2) scMany.nd rfl (Or.inl rfl))
        (fun _ _ _ _ _ => pts_one (pt_cmpR op_ne (pe_op op_and (pv 1) (pe_call GP hr (by rfl) DP.g DP.F.kp DP.b .nil pass0 (pa_cons (pv 2) pa_nil))) pe_int (nomark _))) (fun _ _ _ _ _ => pv 2)) pa_nil))), ?_⟩
    refine ⟨.int m, rfl, m, rfl, by omega, by omega, fun D nD => ?_⟩
    refine lc_range (lo := 0) (n := m.toNat) (fun i H' => Same H H' ∧ H' D = some (.lst ((among a i).map V.int))) ⟨same_new nD, upd_same⟩ ?_ ?_
    · rintro i H' hi ⟨s1, eD⟩
      have ei : (0 + (i : Int)).toNat = i := by omega
      have ej : (0 + (i : Int)) = (i : Int) := by omega
      have p0 : (0 : Int) ≤ 2 ^ i := Int.le_of_lt (Int.pow_pos (by decide))
      have st := among_succ a i
      have al := among_len a i
      refine ⟨rfl, .int a, rfl, .int (0 + i), rfl, 0 + i, rfl, by omega, by omega, a, 2 ^ (0 + (i : Int)).toNat, rfl, rfl, rfl, _, rfl, ?_⟩
      have eb : Builtin.bitAnd (a : Int) (2 ^ (0 + (i : Int)).toNat) = land a (2 ^ i) := by
        rw [ei]
        exact bitAnd_pp (by omega) p0
      refine ite2 (c := (!decide (V.int (Builtin.bitAnd (a : Int) (2 ^ (0 + (i : Int)).toNat)) = V.int 0)) = true) (fun e => ?_) (fun e => ?_)
      · have e1 : a.testBit i = true := land_pow.mp fun z => by
          rw [eb, z, decide_eq_true rfl] at e
          exact Bool.noConfusion e
        rw [if_pos e1] at st
        refine ⟨.int (0 + i), rfl, _, eD, ?_, fun c o e => ?_, ?_⟩
        · rw [List.length_map]
          exact small1000 (by omega)
        · rw [upd_ne (ne_of_none e nD)]
          exact s1 _ _ e
        · rw [st, List.map_append, ej]
          exact upd_same
      · have e1 : ¬ a.testBit i = true := fun z => e (by
          rw [eb, Bool.not_eq_true', decide_eq_false_iff_not]
          exact fun y => land_pow.mpr z (V.int.inj y))
        rw [if_neg e1, List.append_nil] at st
        rw [st]
        exact ⟨s1, eD⟩
    · rintro H' ⟨s1, eD⟩
      refine ⟨D, _, rfl, .inl (SqL.of eD), ?_⟩
      have e : ((among a m.toNat).map V.int).length = Kzi2.size m.toNat a := by
        unfold among Kzi2.size
        rw [List.length_map, List.length_map]
      rw [e]
      exact q H' s1
/-! ### within -/
theorem filter_take {cs : List (Nat × Nat)} {i : Nat} {c : Nat × Nat} (f : Nat × Nat → Bool) (h : cs[i]? = some c) : (cs.take (i + 1)).filter f = (cs.take i).filter f ++ if f c = true then [c] else [] := by
  rw [List.take_add_one, h, List.filter_append]
  congr 1
  by_cases e : f c = true
  · rw [if_pos e]
    exact List.filter_cons_of_pos e
  · rw [if_neg e]
    exact List.filter_cons_of_neg e
def spWithin (K : PySem.W.Frag) : Sp := fun vs H Q _ => ∃ (m a b : Int) (l : Addr) (ns : List Int), vs = [.int m, .int a, .int b, .ref l] ∧ SqL K H l (ns.map V.int) ∧ ns.length ≤ 40 ∧
  0 ≤ a ∧ 0 ≤ b ∧ (∀ x ∈ ns, 0 ≤ x) ∧ ∀ (H' : Hp) (p : Addr), H' p = some (.lst ((PyKzi2.within m a b ns).map V.int)) → Q (.ref p) H'
theorem ok_within (D : Dn K mg "within" sWithin ["m", "a", "b", "ok"]) (DP : Dn K mg "two_to_the_power" sPow ["n"]) (DU : Dn K mg "rules_are_right" sRules ["m", "ok"])
    (DA : Dn K mg "answers_are_right" sAnsw ["m", "a", "b"]) (DL : Dn K mg "all_is_right" sAll ["m", "a", "b", "ok"]) (DH : Dn K mg "rows_that_have" sHave ["a", "b", "ok"]) (DG : Dn K mg "they_go_together" sGo ["a", "b", "ok"])
    (DC : Dn K mg "is_clash" sClash ["m", "a", "b", "ok"]) (DN : Dn K mg "clashes_among" sAmong ["m", "a", "b", "ok"]) (DM : Dn K mg "how_many_questions" sMany ["m", "a"])
    {tM tW tN : Tok} (gM : mg "MOST_QUESTIONS" = some (.int 5 tM)) (gW : mg "WRONGLY_TOLD" = some (.int (-22) tW)) (gN : mg "NO_CLASH_WITHIN" = some (.int (-17) tN))
    (mr : mg "range" = none) (ml : mg "len" = none) (mx : mg "max" = none) (ms : mg "set" = none) (mo : mg "sorted" = none) (mn : mg "min" = none) :
    FnOk P w K mg base CX0 5 D.f D.fd ["m", "a", "b", "ok"] (spWithin K) := by
  have GL : FnOk P w K mg base CX0 4 DL.f DL.fd ["m", "a", "b", "ok"] (spAll K) := ok_all DL DP DU DA gM mr ml mx ms
  have GN : FnOk P w K mg base CX0 4 DN.f DN.fd ["m", "a", "b", "ok"] (spAmong K) := ok_among DN DP DH DG DC mr ml mo
  have GM : FnOk P w K mg base CX0 4 DM.f DM.fd ["m", "a"] spMany := ok_many DM DP mr ml
  refine D.F.ok scWithin (fun vs H Q E h => ?_) (fun cdv A outer s H vs Q E hr h => ?_)
  · obtain ⟨m, a, b, l, ns, rfl, _⟩ := h
    rfl
  · obtain ⟨m, a, b, l, ns, rfl, hS, hl, ha, hb, h0, q⟩ := h
    refine ⟨_, pss_cons (ps_if (pt_not (pt_val (pe_call GL hr (by rfl) DL.g DL.F.kp DL.b .nil pass0 (pa_cons (pv 0) (pa_cons (pv 1) (pa_cons (pv 2) (pa_cons (pv 3) pa_nil)))))))
        (pss_one (ps_ret (pe_lst (pa_cons (pe_glob (v := .int (-22)) rfl gW ⟨_, rfl⟩) pa_nil)))) pss_nil)
      (pss_cons (ps_set (i := 4) scWithin.nd rfl (.inl rfl) (pe_call GN hr (by rfl) DN.g DN.F.kp DN.b .nil pass0 (pa_cons (pv 0) (pa_cons (pv 1) (pa_cons (pv 2) (pa_cons (pv 3) pa_nil))))))
      (pss_cons (ps_if (pt_cmpR op_eq (pe_callB call_len_seq (by rfl) ml PySem.boot_len (pa_cons (pv 4) pa_nil)) pe_int (nomark _))
        (pss_one (ps_ret (pe_lst (pa_cons (pe_glob (v := .int (-17)) rfl gN ⟨_, rfl⟩) pa_nil)))) pss_nil)
      (pss_cons (ps_set (i := 5) scWithin.nd rfl (.inr rfl) (pe_callB (cr_min rfl) (by rfl) mn (by decide +kernel) (pa_cons
        (pe_lc (own := [("part", 6), ("yes", 7)]) (g := gTup K 2 (gCons (gName 6) (gCons (gName 7) gNil))) (tt := tYes) rfl scWithin.nd (pi_list (pv 4))
          (blkOk_by (N := ["m", "a", "b", "ok", "found", "fewest", "part", "yes", "smallest", "clash"]) (sc := defScope sWithin) (by decide +kernel))
          (fun _ _ _ _ _ => pg_tup rfl (pgs_cons (pg_name (i := 6) scWithin.nd rfl (Or.inl rfl)) (pgs_cons (pg_name (i := 7) scWithin.nd rfl (Or.inl rfl)) pgs_nil)))
          (fun _ _ _ _ _ => pts_nil) (fun _ _ _ _ _ => pe_call GM hr (by rfl) DM.g DM.F.kp DM.b .nil pass0 (pa_cons (pv 0) (pa_cons (pv 6) pa_nil)))) pa_nil)))
      (pss_cons (ps_set (i := 8) scWithin.nd rfl (.inl rfl) (pe_ix ix_list
        (pe_lc (own := [("clash", 9)]) (g := gName 9) rfl scWithin.nd (pi_list (pv 4))
          (blkOk_by (N := ["m", "a", "b", "ok", "found", "fewest", "part", "yes", "smallest", "clash"]) (sc := defScope sWithin) (by decide +kernel))
          (fun _ _ _ _ _ => pg_name (i := 9) scWithin.nd rfl (Or.inl rfl))
          (fun _ _ _ _ _ => pts_one (pt_cmpR op_eq (pe_call GM hr (by rfl) DM.g DM.F.kp DM.b .nil pass0 (pa_cons (pv 0) (pa_cons (pe_ix (r := rIxT K) ix_tup (pv 9) pe_int (fun _ _ => rfl)) pa_nil))) (pv 5) (nomark _)))
          (fun _ _ _ _ _ => pv 9)) pe_int (fun _ _ => rfl)))
      (pss_one (ps_ret (pe_lst (pa_cons (pv 5) (pa_cons (pe_ix ix_tup (pv 8) pe_int (fun _ _ => rfl)) (pa_cons (pe_ix ix_tup (pv 8) pe_int (fun _ _ => rfl)) pa_nil)))))))))), ?_⟩
    refine ⟨.int m, rfl, .int a, rfl, .int b, rfl, .ref l, rfl, m, a, b, l, ns, rfl, hS, hl, ha, hb, fun r hr1 => ⟨r, rfl, ?_⟩⟩
    cases r with
    | false =>
      refine iteT ?_
      refine ⟨by show 1 ≤ sizeLine; decide, fun p np => q _ p ?_⟩
      rw [within_bad h0 ha hb (fun z => Bool.noConfusion (hr1.mpr z))]
      exact upd_same
    | true =>
      refine iteF ?_
      obtain ⟨hR, hA⟩ := hr1.mp rfl
      have hm1 := hR.1.1
      have hm2 := hR.1.2
      refine ⟨.int m, rfl, .int a, rfl, .int b, rfl, .ref l, rfl, m, a, b, l, ns, rfl, hS, hl, ha, hb, h0, hR, hA, fun H1 p ts s1 np ep tu tl => ?_⟩
      have none := within_none h0 ha hb hR hA
      have least := fun {g c rest} => @within_least m a b g ns c rest h0 ha hb hR hA
      generalize inside m.toNat (Kzi2Neutral.natsOf ns) a.toNat b.toNat = cs at tu none least
      refine ⟨.ref p, rfl, p, ts, rfl, .inl (SqL.of ep), rfl, _, rfl, ite2 (fun e => ?_) (fun e => ?_)⟩
      · have e3 : (ts.length : Int) = 0 := V.int.inj (of_decide_eq_true e)
        have e4 : cs.length = 0 := by
          rw [← tu.1]
          omega
        refine ⟨by show 1 ≤ sizeLine; decide, fun p np => q _ p ?_⟩
        rw [none (List.eq_nil_of_length_eq_zero e4)]
        exact upd_same
      have e3 : 0 < cs.length := by
        rw [← tu.1]
        rcases Nat.eq_zero_or_pos ts.length with z | z
        · refine absurd (decide_eq_true ?_) e
          rw [z]
          rfl
        · exact z
      have at_of : ∀ {i : Nat} {x : V}, ts[i]? = some x → ∃ c t, cs[i]? = some c ∧ x = .ref t ∧ H1 t = some (.tup [.int c.1, .int c.2]) := fun {i x} hx => by
        have hi : i < cs.length := by
          rw [← tu.1]
          rcases Nat.lt_or_ge i ts.length with z | z
          · exact z
          · rw [List.getElem?_eq_none z] at hx
            cases hx
        obtain ⟨t, e1, e2⟩ := tu.2 i _ (List.getElem?_eq_getElem hi)
        rw [e1] at hx
        cases hx
        exact ⟨_, t, List.getElem?_eq_getElem hi, rfl, e2⟩
      refine ⟨.ref p, rfl, p, rfl, ⟨ts, SqL.of ep⟩, fun D nD => ?_⟩
      -- fewest
      refine lc_list (K := K) (a := p) (xs := ts) (fun i H' => Same H1 H' ∧ H' D = some (.lst (((cs.map fun d => ((Kzi2.size m.toNat d.1 : Nat) : Int)).take i).map V.int))) ⟨same_new nD, upd_same⟩ (fun i H' _ z => SqL.of (z.1 _ _ ep)) ?_ ?_
      · rintro i x H' hx ⟨s2, eD⟩
        obtain ⟨c, t, hc, rfl, e2⟩ := at_of hx
        have e3 := s2 _ _ e2
        have hz : (cs.map fun d => ((Kzi2.size m.toNat d.1 : Nat) : Int))[i]? = some ((Kzi2.size m.toNat c.1 : Nat) : Int) := by
          rw [List.getElem?_map, hc]
          rfl
        refine ⟨t, _, rfl, SqT.of e3, rfl, _, _, rfl, _, _, rfl, rfl, rfl, ?_⟩
        unfold tYes
        dsimp only
        refine iteT ?_
        refine ⟨.int m, rfl, .int c.1, rfl, m, c.1, rfl, by omega, by omega, fun H2 s3 => ?_⟩
        refine ⟨_, s3 _ _ eD, ?_, fun b y e => ?_, ?_⟩
        · rw [List.length_map, List.length_take, List.length_map, ← tu.1]
          exact big2000 (by omega)
        · rw [upd_ne (ne_of_none e nD)]
          exact s3 _ _ (s2 _ _ e)
        · rw [List.take_add_one, hz, List.map_append]
          exact upd_same
      · rintro H2 ⟨s2, eD⟩
        have e0 : ts.length = (cs.map fun d => ((Kzi2.size m.toNat d.1 : Nat) : Int)).length := by
          rw [List.length_map]
          exact tu.1
        rw [e0, List.take_length] at eD
        refine ⟨D, _, rfl, SqL.of eD, by rw [List.length_map]; exact e3, fun g hg hle => ?_⟩
        -- smallest
        refine ⟨.ref p, rfl, p, rfl, ⟨ts, SqL.of (s2 _ _ ep)⟩, fun D2 nD2 => ?_⟩
        refine lc_list (K := K) (a := p) (xs := ts) (fun i H' => ∃ us, Same H2 H' ∧ H' D2 = some (.lst us) ∧ us.length ≤ i ∧ Tups H' us ((cs.take i).filter fun d => decide (((Kzi2.size m.toNat d.1 : Nat) : Int) = g)))
          ⟨[], same_new nD2, upd_same, Nat.le_refl _, rfl, fun i c e => nomatch e⟩ (fun i H' _ ⟨us, z, _⟩ => SqL.of (z _ _ (s2 _ _ ep))) ?_ ?_
        · rintro i x H' hx ⟨us, s4, eU, ul, tU⟩
          obtain ⟨c, t, hc, rfl, e2⟩ := at_of hx
          have e5 := s4 _ _ (s2 _ _ e2)
          have st := filter_take (fun d => decide (((Kzi2.size m.toNat d.1 : Nat) : Int) = g)) hc
          have hi : i < ts.length := by
            rw [tu.1]
            exact (List.getElem?_eq_some_iff.mp hc).1
          refine ⟨rfl, .int m, rfl, .ref t, rfl, t, _, 0, .int c.1, rfl, rfl, SqT.of e5, atI_nat (j := 0) rfl, m, c.1, rfl, by omega, by omega, fun H4 s5 => ?_⟩
          refine ⟨.int g, rfl, rfl, _, rfl, ?_⟩
          refine ite2 (c := decide (V.int ((Kzi2.size m.toNat c.1 : Nat) : Int) = V.int g) = true) (fun e => ?_) (fun e => ?_)
          · have e1 := V.int.inj (of_decide_eq_true e)
            rw [if_pos (decide_eq_true e1)] at st
            have eU4 := s5 _ _ eU
            refine ⟨.ref t, rfl, us, eU4, big2000 (by omega), us ++ [.ref t], fun b y e => ?_, upd_same, ?_, ?_⟩
            · rw [upd_ne (ne_of_none e nD2)]
              exact s5 _ _ (s4 _ _ e)
            · rw [List.length_append]
              simp only [List.length_cons, List.length_nil]
              omega
            · rw [st]
              refine Tups.snoc (c := c) (tU.mono fun u x hu => ?_) ?_
              · have x1 := s5 _ _ hu
                rw [upd_ne (ne_of x1 eU4 (by intro z; cases z))]
                exact x1
              · have x1 := s5 _ _ e5
                rw [upd_ne (ne_of x1 eU4 (by intro z; cases z))]
                exact x1
          · have e1 : ¬ ((Kzi2.size m.toNat c.1 : Nat) : Int) = g := fun z => e (decide_eq_true (congrArg V.int z))
            rw [if_neg (by rw [decide_eq_true_iff]; exact e1), List.append_nil] at st
            refine ⟨us, s4.trans s5, s5 _ _ eU, by omega, ?_⟩
            rw [st]
            exact tU.mono fun u x hu => s5 _ _ hu
        · rintro H' ⟨us, s4, eU, ul, tU⟩
          rw [tu.1, List.take_length] at tU
          cases ef : cs.filter fun d => decide (((Kzi2.size m.toNat d.1 : Nat) : Int) = g) with
          | nil =>
            obtain ⟨d, hd, e⟩ := List.mem_map.mp hg
            have : d ∈ cs.filter fun d => decide (((Kzi2.size m.toNat d.1 : Nat) : Int) = g) := List.mem_filter.mpr ⟨hd, decide_eq_true e⟩
            rw [ef] at this
            cases this
          | cons c rest =>
            rw [ef] at tU
            obtain ⟨t, e1, e2⟩ := tU.2 0 c rfl
            refine ⟨D2, us, 0, .ref t, rfl, rfl, SqL.of eU, atI_nat (j := 0) e1, ?_⟩
            refine ⟨.int g, rfl, .ref t, rfl, t, _, 0, .int c.1, rfl, rfl, SqT.of e2, atI_nat (j := 0) rfl, .ref t, rfl, t, _, 1, .int c.2, rfl, rfl, SqT.of e2, atI_nat (j := 1) rfl, by show 3 ≤ sizeLine; decide, fun u nu => q _ u ?_⟩
            rw [least hg hle ef]
            exact upd_same
end
theorem all_mk {P : Program} {w : World} {K : PySem.W.Frag} {h : Heap} {mg : Str → Option Value} {fa f1 f2 f3 f4 f5 f6 f7 f8 f9 f10 : Addr} (X : K.In h) (G : h.Ns mainGlobals mg) (hfa : mg "within" = some (.ref fa))
    {od1 an1 od2 an2 od3 an3 od4 an4 od5 an5 od6 an6 od7 an7 od8 an8 od9 an9 od10 an10 : Option Addr} {sl1 sl2 sl3 sl4 sl5 sl6 sl7 sl8 sl9 sl10 : Array (Option Value)}
    {oc1 kV1 dc1 pm1 cd1 ct1 oc2 kV2 dc2 pm2 cd2 ct2 oc3 kV3 dc3 pm3 cd3 ct3 oc4 kV4 dc4 pm4 cd4 ct4 oc5 kV5 dc5 pm5 cd5 ct5 oc6 kV6 dc6 pm6 cd6 ct6 oc7 kV7 dc7 pm7 cd7 ct7 oc8 kV8 dc8 pm8 cd8 ct8 oc9 kV9 dc9 pm9 cd9 ct9 oc10 kV10 dc10 pm10 cd10 ct10 : Value}
    {tk1 tk2 tk3 : Tok}
    (a1 : PySem.W.nsIn K mainGlobals "two_to_the_power" = some (some (.ref f1))) (l1 : K.lookup f1 = some ⟨oc1, od1, .func (PySem.W.fnOf "two_to_the_power" "two_to_the_power" (defArgs sPow) (defBody sPow) (defScope sPow) .none kV1 dc1 pm1 an1 cd1 ct1), sl1⟩)
    (c1 : PySem.W.codeIn K cd1 "two_to_the_power" = true) (k1 : PySem.W.keepIn K (.ref f1) = true)
    (a2 : PySem.W.nsIn K mainGlobals "rules_are_right" = some (some (.ref f2))) (l2 : K.lookup f2 = some ⟨oc2, od2, .func (PySem.W.fnOf "rules_are_right" "rules_are_right" (defArgs sRules) (defBody sRules) (defScope sRules) .none kV2 dc2 pm2 an2 cd2 ct2), sl2⟩)
    (c2 : PySem.W.codeIn K cd2 "rules_are_right" = true) (k2 : PySem.W.keepIn K (.ref f2) = true)
    (a3 : PySem.W.nsIn K mainGlobals "answers_are_right" = some (some (.ref f3))) (l3 : K.lookup f3 = some ⟨oc3, od3, .func (PySem.W.fnOf "answers_are_right" "answers_are_right" (defArgs sAnsw) (defBody sAnsw) (defScope sAnsw) .none kV3 dc3 pm3 an3 cd3 ct3), sl3⟩)
    (c3 : PySem.W.codeIn K cd3 "answers_are_right" = true) (k3 : PySem.W.keepIn K (.ref f3) = true)
    (a4 : PySem.W.nsIn K mainGlobals "all_is_right" = some (some (.ref f4))) (l4 : K.lookup f4 = some ⟨oc4, od4, .func (PySem.W.fnOf "all_is_right" "all_is_right" (defArgs sAll) (defBody sAll) (defScope sAll) .none kV4 dc4 pm4 an4 cd4 ct4), sl4⟩)
    (c4 : PySem.W.codeIn K cd4 "all_is_right" = true) (k4 : PySem.W.keepIn K (.ref f4) = true)
    (a5 : PySem.W.nsIn K mainGlobals "rows_that_have" = some (some (.ref f5))) (l5 : K.lookup f5 = some ⟨oc5, od5, .func (PySem.W.fnOf "rows_that_have" "rows_that_have" (defArgs sHave) (defBody sHave) (defScope sHave) .none kV5 dc5 pm5 an5 cd5 ct5), sl5⟩)
    (c5 : PySem.W.codeIn K cd5 "rows_that_have" = true) (k5 : PySem.W.keepIn K (.ref f5) = true)
    (a6 : PySem.W.nsIn K mainGlobals "they_go_together" = some (some (.ref f6))) (l6 : K.lookup f6 = some ⟨oc6, od6, .func (PySem.W.fnOf "they_go_together" "they_go_together" (defArgs sGo) (defBody sGo) (defScope sGo) .none kV6 dc6 pm6 an6 cd6 ct6), sl6⟩)
    (c6 : PySem.W.codeIn K cd6 "they_go_together" = true) (k6 : PySem.W.keepIn K (.ref f6) = true)
    (a7 : PySem.W.nsIn K mainGlobals "is_clash" = some (some (.ref f7))) (l7 : K.lookup f7 = some ⟨oc7, od7, .func (PySem.W.fnOf "is_clash" "is_clash" (defArgs sClash) (defBody sClash) (defScope sClash) .none kV7 dc7 pm7 an7 cd7 ct7), sl7⟩)
    (c7 : PySem.W.codeIn K cd7 "is_clash" = true) (k7 : PySem.W.keepIn K (.ref f7) = true)
    (a8 : PySem.W.nsIn K mainGlobals "clashes_among" = some (some (.ref f8))) (l8 : K.lookup f8 = some ⟨oc8, od8, .func (PySem.W.fnOf "clashes_among" "clashes_among" (defArgs sAmong) (defBody sAmong) (defScope sAmong) .none kV8 dc8 pm8 an8 cd8 ct8), sl8⟩)
    (c8 : PySem.W.codeIn K cd8 "clashes_among" = true) (k8 : PySem.W.keepIn K (.ref f8) = true)
    (a9 : PySem.W.nsIn K mainGlobals "how_many_questions" = some (some (.ref f9))) (l9 : K.lookup f9 = some ⟨oc9, od9, .func (PySem.W.fnOf "how_many_questions" "how_many_questions" (defArgs sMany) (defBody sMany) (defScope sMany) .none kV9 dc9 pm9 an9 cd9 ct9), sl9⟩)
    (c9 : PySem.W.codeIn K cd9 "how_many_questions" = true) (k9 : PySem.W.keepIn K (.ref f9) = true)
    (a10 : PySem.W.nsIn K mainGlobals "within" = some (some (.ref f10))) (l10 : K.lookup f10 = some ⟨oc10, od10, .func (PySem.W.fnOf "within" "within" (defArgs sWithin) (defBody sWithin) (defScope sWithin) .none kV10 dc10 pm10 an10 cd10 ct10), sl10⟩)
    (c10 : PySem.W.codeIn K cd10 "within" = true) (k10 : PySem.W.keepIn K (.ref f10) = true)
    (g1 : PySem.W.nsIn K mainGlobals "MOST_QUESTIONS" = some (some (.int 5 tk1)))
    (g2 : PySem.W.nsIn K mainGlobals "WRONGLY_TOLD" = some (some (.int (-22) tk2)))
    (g3 : PySem.W.nsIn K mainGlobals "NO_CLASH_WITHIN" = some (some (.int (-17) tk3)))
    (z1 : PySem.W.nsIn K mainGlobals "range" = some none) (z2 : PySem.W.nsIn K mainGlobals "len" = some none) (z3 : PySem.W.nsIn K mainGlobals "max" = some none) (z4 : PySem.W.nsIn K mainGlobals "set" = some none) (z5 : PySem.W.nsIn K mainGlobals "sorted" = some none) (z6 : PySem.W.nsIn K mainGlobals "min" = some none) :
    ∃ fd : FuncData, (∀ (s : Shared) (us : List Value), us.length = (["m", "a", "b", "ok"] : List Str).length → BindsTo s fd ⟨us, []⟩ ((["m", "a", "b", "ok"] : List Str).zip us)) ∧
      ∀ base : Heap, K.In base → base.Ns mainGlobals mg → FnOk P w K mg base CX0 5 fa fd ["m", "a", "b", "ok"] (spWithin K) := by
  have e := hfa.symm.trans (PySem.W.mg_of X G a10)
  cases e
  have F1 := fun_mk (st := sPow) l1 c1 k1
  have D1 : Dn K mg "two_to_the_power" sPow ["n"] := ⟨_, _, F1, F1.binds (ps := ["n"]) fun _ _ _ _ _ _ us hl => match us, hl with | [_], _ => rfl, PySem.W.mg_of X G a1⟩
  have F2 := fun_mk (st := sRules) l2 c2 k2
  have D2 : Dn K mg "rules_are_right" sRules ["m", "ok"] := ⟨_, _, F2, F2.binds (ps := ["m", "ok"]) fun _ _ _ _ _ _ us hl => match us, hl with | [_, _], _ => rfl, PySem.W.mg_of X G a2⟩
  have F3 := fun_mk (st := sAnsw) l3 c3 k3
  have D3 : Dn K mg "answers_are_right" sAnsw ["m", "a", "b"] := ⟨_, _, F3, F3.binds (ps := ["m", "a", "b"]) fun _ _ _ _ _ _ us hl => match us, hl with | [_, _, _], _ => rfl, PySem.W.mg_of X G a3⟩
  have F4 := fun_mk (st := sAll) l4 c4 k4
  have D4 : Dn K mg "all_is_right" sAll ["m", "a", "b", "ok"] := ⟨_, _, F4, F4.binds (ps := ["m", "a", "b", "ok"]) fun _ _ _ _ _ _ us hl => match us, hl with | [_, _, _, _], _ => rfl, PySem.W.mg_of X G a4⟩
  have F5 := fun_mk (st := sHave) l5 c5 k5
  have D5 : Dn K mg "rows_that_have" sHave ["a", "b", "ok"] := ⟨_, _, F5, F5.binds (ps := ["a", "b", "ok"]) fun _ _ _ _ _ _ us hl => match us, hl with | [_, _, _], _ => rfl, PySem.W.mg_of X G a5⟩
  have F6 := fun_mk (st := sGo) l6 c6 k6
  have D6 : Dn K mg "they_go_together" sGo ["a", "b", "ok"] := ⟨_, _, F6, F6.binds (ps := ["a", "b", "ok"]) fun _ _ _ _ _ _ us hl => match us, hl with | [_, _, _], _ => rfl, PySem.W.mg_of X G a6⟩
  have F7 := fun_mk (st := sClash) l7 c7 k7
  have D7 : Dn K mg "is_clash" sClash ["m", "a", "b", "ok"] := ⟨_, _, F7, F7.binds (ps := ["m", "a", "b", "ok"]) fun _ _ _ _ _ _ us hl => match us, hl with | [_, _, _, _], _ => rfl, PySem.W.mg_of X G a7⟩
  have F8 := fun_mk (st := sAmong) l8 c8 k8
  have D8 : Dn K mg "clashes_among" sAmong ["m", "a", "b", "ok"] := ⟨_, _, F8, F8.binds (ps := ["m", "a", "b", "ok"]) fun _ _ _ _ _ _ us hl => match us, hl with | [_, _, _, _], _ => rfl, PySem.W.mg_of X G a8⟩
  have F9 := fun_mk (st := sMany) l9 c9 k9
  have D9 : Dn K mg "how_many_questions" sMany ["m", "a"] := ⟨_, _, F9, F9.binds (ps := ["m", "a"]) fun _ _ _ _ _ _ us hl => match us, hl with | [_, _], _ => rfl, PySem.W.mg_of X G a9⟩
  have F10 := fun_mk (st := sWithin) l10 c10 k10
  let D10 : Dn K mg "within" sWithin ["m", "a", "b", "ok"] := ⟨_, _, F10, F10.binds (ps := ["m", "a", "b", "ok"]) fun _ _ _ _ _ _ us hl => match us, hl with | [_, _, _, _], _ => rfl, PySem.W.mg_of X G a10⟩
  have v1 := PySem.W.mg_of X G g1
  have v2 := PySem.W.mg_of X G g2
  have v3 := PySem.W.mg_of X G g3
  have n1 := PySem.W.mg_none_of X G z1
  have n2 := PySem.W.mg_none_of X G z2
  have n3 := PySem.W.mg_none_of X G z3
  have n4 := PySem.W.mg_none_of X G z4
  have n5 := PySem.W.mg_none_of X G z5
  have n6 := PySem.W.mg_none_of X G z6
  exact ⟨PySem.W.fnOf "within" "within" (defArgs sWithin) (defBody sWithin) (defScope sWithin) .none kV10 dc10 pm10 an10 cd10 ct10,
    fun s us hu => match us, hu with | [_, _, _, _], _ => .of_eq rfl, fun base _ _ => ok_within D10 D1 D2 D3 D4 D5 D6 D7 D8 D9 v1 v2 v3 n1 n2 n3 n4 n5 n6⟩
end Cl
open PySem PySem.W PyProof.Rows
set_option maxRecDepth 100000 in
set_option maxHeartbeats 8000000 in
theorem PySem.Challenge.cw_clashrules_s04_within_holds : PySem.Challenge.rw_clashrules_s04_within.Holds := by
  w_on; k_headS; (case hw => exact ⟨[.int 1, .int 0, .int 0, .list [.int 0]], by decide +kernel, by decide +kernel⟩)
  k_fillS
  refine L2.walk_specK (r := PySem.Challenge.rw_clashrules_s04_within) (k := 5) (CX := L2.CX0) (ps := ["m", "a", "b", "ok"]) (sp := Cl.spWithin) (by decide +kernel) rfl rfl ⟨rfl, by decide, by decide⟩ (fun w h Y => PySem.W.kIn_of Y) ?F ?S (fun _ _ _ _ z => z)
  case F =>
    intro w mg fa h Y KX G hmg
    refine' Cl.all_mk KX G hmg ?a1 ?l1 ?c1 ?k1 ?a2 ?l2 ?c2 ?k2 ?a3 ?l3 ?c3 ?k3 ?a4 ?l4 ?c4 ?k4 ?a5 ?l5 ?c5 ?k5 ?a6 ?l6 ?c6 ?k6 ?a7 ?l7 ?c7 ?k7 ?a8 ?l8 ?c8 ?k8 ?a9 ?l9 ?c9 ?k9 ?a10 ?l10 ?c10 ?k10 ?g1 ?g2 ?g3 ?z1 ?z2 ?z3 ?z4 ?z5 ?z6
    (case a1 => k_is)
    (case l1 => k_is)
    (case c1 => k_is)
    (case k1 => k_is)
    (case a2 => k_is)
    (case l2 => k_is)
    (case c2 => k_is)
    (case k2 => k_is)
    (case a3 => k_is)
    (case l3 => k_is)
    (case c3 => k_is)
    (case k3 => k_is)
    (case a4 => k_is)
    (case l4 => k_is)
    (case c4 => k_is)
    (case k4 => k_is)
    (case a5 => k_is)
    (case l5 => k_is)
    (case c5 => k_is)
    (case k5 => k_is)
    (case a6 => k_is)
    (case l6 => k_is)
    (case c6 => k_is)
    (case k6 => k_is)
    (case a7 => k_is)
    (case l7 => k_is)
    (case c7 => k_is)
    (case k7 => k_is)
    (case a8 => k_is)
    (case l8 => k_is)
    (case c8 => k_is)
    (case k8 => k_is)
    (case a9 => k_is)
    (case l9 => k_is)
    (case c9 => k_is)
    (case k9 => k_is)
    (case a10 => k_is)
    (case l10 => k_is)
    (case c10 => k_is)
    (case k10 => k_is)
    (case g1 => k_is)
    (case g2 => k_is)
    (case g3 => k_is)
    (case z1 => k_is)
    (case z2 => k_is)
    (case z3 => k_is)
    (case z4 => k_is)
    (case z5 => k_is)
    (case z6 => k_is)
  case S =>
    intro K H xs a hO hwi hask hx
    obtain ⟨m, u, v, ns, e⟩ := a
    cases hx with
    | cons h1 hx =>
      cases hx with
      | cons h2 hx =>
        cases hx with
        | cons h3 hx =>
          cases hx with
          | cons h4 hx =>
            cases hx
            cases h1
            cases h2
            cases h3
            cases h4 with
            | lst hs ha =>
              have e := L2.ints_dw ns _ ha
              subst e
              have w : (Codec.inInt 0 4294967295 m && (Codec.inInt 0 4294967295 u && (Codec.inInt 0 4294967295 v && ((Codec.inLen 0 40 ns && ns.all (Codec.inInt 0 255)) && true)))) = true := hwi
              simp only [Bool.and_eq_true] at w
              obtain ⟨w1, w2, w3, ⟨w4, w5⟩, _⟩ := w
              have i1 := Codec.inInt_iff.mp w1
              have i2 := Codec.inInt_iff.mp w2
              have i3 := Codec.inInt_iff.mp w3
              have i4 := (Codec.inNat_iff.mp w4).2
              have i5 : ∀ x ∈ ns, 0 ≤ x := fun x hx => (Codec.inInt_iff.mp (List.all_eq_true.mp w5 x hx)).1
              exact ⟨m, u, v, _, ns, rfl, hs, i4, i2.1, i3.1, i5, fun H' p hp => .lst (L2.SqL.of hp) (L2.dw_ints _)⟩
#print axioms PySem.Challenge.cw_clashrules_s04_within_holds
