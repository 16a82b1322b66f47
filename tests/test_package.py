"""The package's own files: what lies there, the calls in them, and that they keep, import and read nothing."""

import ast
import inspect
import pathlib
import unittest

import clashrules
import clashrules.answers

FOLDER = pathlib.Path(clashrules.__file__).parent
FILES = sorted(FOLDER.glob("*.py"))
PYTHONS_OWN = (
    "len range enumerate zip min max sum abs sorted reversed int str bool list tuple dict set"
    " frozenset isinstance ord repr any all divmod"
).split()
CALLS = {
    "goes": ["m", "a", "b", "ok"],
    "clashes": ["m", "ok"],
    "greatest": ["m", "ok"],
    "within": ["m", "a", "b", "ok"],
    "settled": ["m", "a", "b", "ok"],
}


def names_bound(tree):
    bound = set()
    for node in ast.walk(tree):
        if isinstance(node, ast.FunctionDef):
            bound.add(node.name)
        if isinstance(node, ast.arg):
            bound.add(node.arg)
        if isinstance(node, ast.Name) and isinstance(node.ctx, ast.Store):
            bound.add(node.id)
    return bound


class Package(unittest.TestCase):
    def test_only_its_files(self):
        there = sorted(path for path in FOLDER.iterdir() if path.name != "__pycache__")
        self.assertEqual(there, FILES)
        self.assertIn(FOLDER / "answers.py", FILES)

    def test_each_call_is_there_with_its_arguments(self):
        for name, wanted in CALLS.items():
            arguments = inspect.signature(getattr(clashrules.answers, name)).parameters
            self.assertEqual(list(arguments), wanted, name)
            for argument in arguments.values():
                self.assertIs(argument.default, inspect.Parameter.empty, name)

    def test_nothing_is_kept(self):
        for path in FILES:
            for node in ast.parse(path.read_text()).body:
                if isinstance(node, ast.Assign):
                    self.assertIs(type(ast.literal_eval(node.value)), int, path.name)
                elif not isinstance(node, ast.FunctionDef):
                    self.assertIsInstance(node.value, ast.Constant, path.name)

    def test_nothing_is_imported(self):
        for path in FILES:
            for node in ast.walk(ast.parse(path.read_text())):
                self.assertNotIsInstance(node, (ast.Import, ast.ImportFrom), path.name)

    def test_no_name_from_elsewhere(self):
        for path in FILES:
            tree = ast.parse(path.read_text())
            known = names_bound(tree).union(PYTHONS_OWN)
            for node in ast.walk(tree):
                if isinstance(node, ast.Name):
                    self.assertIn(node.id, known, path.name)

    def test_signs_and_sizes(self):
        for path in FILES:
            text = path.read_bytes().decode("ascii")
            self.assertTrue(all(sign == "\n" or " " <= sign <= "~" for sign in text), path.name)
            rows = text.split("\n")
            self.assertLessEqual(len(rows), 400, path.name)
            self.assertLessEqual(max(len(row) for row in rows), 120, path.name)
            for node in ast.walk(ast.parse(text)):
                if isinstance(node, ast.FunctionDef):
                    self.assertLessEqual(node.end_lineno - node.lineno + 1, 40, node.name)


if __name__ == "__main__":
    unittest.main()
