"""The package's own files keep to the small part of Python that they are written in.

This sees the rules that a walk over the source can tell plainly; not all of them.
"""
import ast
import builtins
import pathlib
import re
import unittest

PACKAGE = pathlib.Path(__file__).resolve().parent.parent / "piecerow"

NODES = """Module Expr Assign AugAssign If While For Return Break Continue Pass Raise Try ExceptHandler
    Call FunctionDef ClassDef ImportFrom alias arguments arg Name Attribute Constant List Tuple Dict
    BinOp UnaryOp BoolOp Compare IfExp Subscript Slice ListComp comprehension Lambda keyword
    JoinedStr FormattedValue Load Store Add Sub Mult FloorDiv Mod Pow BitAnd BitOr BitXor LShift RShift
    Invert USub UAdd Not And Or Eq NotEq Lt LtE Gt GtE Is IsNot In NotIn""".split()

BUILT_IN = """len range enumerate zip min max sum abs sorted reversed int str bool list tuple dict
    isinstance ord repr any all divmod set frozenset Exception ValueError TypeError KeyError IndexError
    LookupError ZeroDivisionError ArithmeticError OverflowError RuntimeError NotImplementedError
    StopIteration""".split()

METHODS = """append clear copy count endswith extend find get index insert isalnum isalpha isdigit islower
    isspace isupper items join keys ljust lower lstrip partition pop remove replace reverse rfind rjust
    rpartition rsplit rstrip setdefault split splitlines startswith strip update upper values zfill
    bit_length""".split()

WORDS_LEFT_OUT = """type typing typing_extensions enum Enum IntEnum StrEnum Flag IntFlag Generic Protocol
    ABC ABCMeta namedtuple NamedTuple TypedDict TYPE_CHECKING abstractmethod""".split()


def source_files():
    return sorted(path for path in PACKAGE.rglob("*") if path.is_file() and "__pycache__" not in path.parts)


class SourceTest(unittest.TestCase):
    def each_node(self, check):
        for path in source_files():
            tree = ast.parse(path.read_text(encoding="ascii"))
            for node in ast.walk(tree):
                with self.subTest(file=path.name, line=getattr(node, "lineno", 0), node=type(node).__name__):
                    check(node)

    def test_the_files(self):
        names = [path.relative_to(PACKAGE).as_posix() for path in source_files()]
        self.assertIn("__init__.py", names)
        self.assertIn("pieces.py", names)
        for name in names:
            self.assertRegex(name, r"\A[a-z0-9_]+\.py\Z")

    def test_signs_words_and_sizes(self):
        for path in source_files():
            text = path.read_bytes().decode("ascii")
            with self.subTest(file=path.name):
                self.assertRegex(text, r"\A[ -~\n]*\Z")
                self.assertLessEqual(len(text.splitlines()), 400)
                self.assertLessEqual(max(map(len, text.splitlines())), 120)
                self.assertEqual([word for word in re.findall(r"\w+", text) if word in WORDS_LEFT_OUT], [])

    def test_only_the_allowed_forms(self):
        self.each_node(lambda node: self.assertIn(type(node).__name__, NODES))

    def test_values_are_whole_numbers_and_texts(self):
        def check(node):
            if isinstance(node, ast.Constant):
                self.assertIn(type(node.value), (int, str, bool, type(None)))
        self.each_node(check)

    def test_imports_are_the_packages_own(self):
        def check(node):
            if isinstance(node, ast.ImportFrom):
                self.assertEqual(node.level, 0)
                self.assertRegex(node.module, r"\Apiecerow(\.|\Z)")
        self.each_node(check)

    def test_functions(self):
        def check(node):
            if isinstance(node, ast.FunctionDef):
                self.assertLessEqual(node.end_lineno - node.lineno + 1, 40)
                self.assertEqual(node.decorator_list, [])
                self.assertEqual((node.args.vararg, node.args.kwarg, node.args.kwonlyargs), (None, None, []))
        self.each_node(check)

    def test_names(self):
        def check(node):
            if isinstance(node, ast.Name):
                self.assertRegex(node.id, r"\A[A-Za-z][A-Za-z0-9_]*\Z")
                if hasattr(builtins, node.id):
                    self.assertIn(node.id, BUILT_IN)
                    self.assertIsInstance(node.ctx, ast.Load)
            if isinstance(node, ast.arg):
                self.assertRegex(node.arg, r"\A[A-Za-z][A-Za-z0-9_]*\Z")
                self.assertFalse(hasattr(builtins, node.arg))
        self.each_node(check)

    def test_methods(self):
        def check(node):
            if isinstance(node, ast.Attribute):
                self.assertIn(node.attr, METHODS)
        self.each_node(check)


if __name__ == "__main__":
    unittest.main()
