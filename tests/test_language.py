"""Those rules of LANGUAGE.md that a short look at the package's files can hold it to.

Not every rule is looked at here; a file that passes may still break one.
"""

import ast
import builtins
import pathlib
import re
import unittest

PACKAGE = pathlib.Path(__file__).resolve().parent.parent / "wakeslots"
FILE_NAME = re.compile(r"^[a-z0-9_]+\.py\Z")
PLAIN_NAME = re.compile(r"^[A-Za-z][A-Za-z0-9_]*\Z")
OWN_NAMES = """len range enumerate zip min max sum abs sorted reversed int str bool list tuple dict set
    frozenset isinstance ord repr any all divmod Exception ValueError TypeError KeyError IndexError
    LookupError ZeroDivisionError ArithmeticError OverflowError RuntimeError NotImplementedError
    AttributeError StopIteration""".split()
WORDS = """type typing typing_extensions enum Enum IntEnum StrEnum Flag IntFlag Generic Protocol ABC
    ABCMeta namedtuple NamedTuple TypedDict TYPE_CHECKING abstractmethod""".split()
STATEMENTS = (
    ast.FunctionDef, ast.ClassDef, ast.Assign, ast.AugAssign, ast.If, ast.While, ast.For, ast.Return,
    ast.Break, ast.Continue, ast.Pass, ast.Raise, ast.Try, ast.Expr, ast.ImportFrom,
)


def package_files():
    return sorted(path for path in PACKAGE.rglob("*") if "__pycache__" not in path.parts)


def nodes_of(path):
    return list(ast.walk(ast.parse(path.read_text(encoding="utf-8"))))


class Language(unittest.TestCase):
    def test_files(self):
        names = [path.name for path in package_files()]
        self.assertIn("__init__.py", names)
        self.assertIn("meeting.py", names)
        for name in names:
            self.assertRegex(name, FILE_NAME)
            self.assertFalse(name.startswith("test"), name)

    def test_signs_and_sizes(self):
        for path in package_files():
            text = path.read_bytes().decode("utf-8")
            self.assertEqual([sign for sign in text if sign != "\n" and not " " <= sign <= "~"], [], path)
            rows = text.split("\n")
            self.assertLessEqual(len(rows), 400, path)
            self.assertLessEqual(max(len(row) for row in rows), 120, path)
            for node in nodes_of(path):
                if isinstance(node, ast.FunctionDef):
                    self.assertLessEqual(node.end_lineno - node.lineno + 1, 40, (path, node.name))

    def test_words_that_stand_nowhere(self):
        for path in package_files():
            words = re.findall(r"\w+", path.read_text(encoding="utf-8"))
            self.assertEqual([word for word in words if word in WORDS], [], path)

    def test_statements(self):
        for path in package_files():
            for node in nodes_of(path):
                if isinstance(node, ast.stmt):
                    self.assertIsInstance(node, STATEMENTS, (path, node.lineno))
                if isinstance(node, (ast.For, ast.While)):
                    self.assertEqual(node.orelse, [], (path, node.lineno))
                if isinstance(node, (ast.FunctionDef, ast.ClassDef)):
                    self.assertEqual(node.decorator_list, [], (path, node.lineno))

    def test_imports_are_the_package_s_own(self):
        for path in package_files():
            for node in nodes_of(path):
                self.assertNotIsInstance(node, ast.Import, path)
                if isinstance(node, ast.ImportFrom):
                    self.assertEqual(node.level, 0, path)
                    self.assertEqual(node.module.split(".")[0], "wakeslots", path)

    def test_names(self):
        for path in package_files():
            for node in nodes_of(path):
                if isinstance(node, ast.Name):
                    self.assertRegex(node.id, PLAIN_NAME)
                    if hasattr(builtins, node.id):
                        self.assertIn(node.id, OWN_NAMES, (path, node.lineno))
                        self.assertIsInstance(node.ctx, ast.Load, (path, node.lineno))
                if isinstance(node, ast.arg):
                    self.assertRegex(node.arg, PLAIN_NAME)
                    self.assertFalse(hasattr(builtins, node.arg), (path, node.lineno))

    def test_values(self):
        for path in package_files():
            for node in nodes_of(path):
                self.assertNotIsInstance(node, (ast.Div, ast.Starred, ast.NamedExpr), path)
                self.assertNotIsInstance(node, (ast.SetComp, ast.DictComp, ast.GeneratorExp), path)
                if isinstance(node, ast.Constant):
                    self.assertIn(type(node.value), (int, str, bool, type(None)), (path, node.lineno))
                    if isinstance(node.value, str):
                        self.assertNotIn("%", node.value, (path, node.lineno))


if __name__ == "__main__":
    unittest.main()
