"""The package held against rules of the language: many of them, not all; what is not seen here is still asked for."""

import ast
import pathlib
import re
import unittest

PACKAGE = pathlib.Path(__file__).resolve().parent.parent / "camplay"

NODES = {name: True for name in """
    Module FunctionDef arguments arg ClassDef ImportFrom alias Return Assign AugAssign For While If Break Continue Pass
    Raise Try ExceptHandler Expr Constant Name Load Store Attribute Subscript Slice Call keyword List Tuple Dict Set
    ListComp comprehension JoinedStr FormattedValue Lambda IfExp BoolOp And Or UnaryOp Not USub UAdd Invert BinOp Add Sub
    Mult FloorDiv Mod Pow LShift RShift BitAnd BitOr BitXor Compare Eq NotEq Lt LtE Gt GtE In NotIn Is IsNot
    """.split()}
OWN_OF_PYTHON = """
    len range enumerate zip min max sum abs sorted reversed int str bool list tuple dict set frozenset isinstance ord
    repr any all divmod Exception ValueError TypeError KeyError IndexError LookupError ZeroDivisionError
    ArithmeticError OverflowError RuntimeError NotImplementedError AttributeError StopIteration
    """.split()
METHODS = """
    append clear copy count endswith extend find get index insert isalnum isalpha isdigit islower isspace isupper items
    join keys ljust lower lstrip partition pop remove replace reverse rfind rjust rpartition rsplit rstrip setdefault
    split splitlines startswith strip update upper values zfill bit_length __init__
    """.split()
OUT = """
    type typing typing_extensions enum Enum IntEnum StrEnum Flag IntFlag Generic Protocol ABC ABCMeta namedtuple
    NamedTuple TypedDict TYPE_CHECKING abstractmethod
    """.split()
PYTHON_NAMES = dir(__builtins__) if not isinstance(__builtins__, dict) else list(__builtins__)


# One target only, so the tuples of a for and of a comprehension are the only ones that are taken apart.
def faults_of_statement(node):
    targets = node.targets if isinstance(node, ast.Assign) else []
    if len(targets) > 1 or any(isinstance(target, (ast.Tuple, ast.List)) for target in targets):
        yield "L6 one target"
    if isinstance(node, (ast.For, ast.While)) and node.orelse:
        yield "L6 else behind a loop"
    if isinstance(node, ast.Try) and node.finalbody:
        yield "L6 finally"
    if isinstance(node, ast.Expr) and not isinstance(node.value, ast.Call):
        yield "L6 a value by itself"
    if isinstance(node, ast.ExceptHandler) and node.type is None:
        yield "L6 except of nothing"


def faults_of_def(node):
    if isinstance(node, ast.FunctionDef):
        told = node.args
        if told.vararg or told.kwarg or told.kwonlyargs or told.posonlyargs or node.decorator_list:
            yield "L4 plain parameters"
        if node.end_lineno - node.lineno + 1 > 40:
            yield "L10 a def of over 40 lines"
    if isinstance(node, ast.ClassDef):
        if node.decorator_list or node.keywords or len(node.bases) > 1:
            yield "L5 a plain class"
        if not all(isinstance(part, (ast.FunctionDef, ast.Pass)) for part in node.body):
            yield "L5 a value in the class"


def faults_of_value(node):
    if isinstance(node, ast.Constant) and not (node.value is None or isinstance(node.value, (int, str))):
        yield "L7 a value of another kind"
    if isinstance(node, ast.ListComp) and (len(node.generators) > 1 or len(node.generators[0].ifs) > 1):
        yield "L7 a longer comprehension"
    if isinstance(node, ast.FormattedValue) and (not isinstance(node.value, ast.Name) or node.format_spec):
        yield "L7 a plain name in a text"
    if isinstance(node, ast.BinOp) and isinstance(node.op, ast.Pow) and not isinstance(node.right, ast.Constant):
        yield "L27 a written exponent"
    if isinstance(node, ast.Compare) and any(isinstance(op, (ast.Is, ast.IsNot)) for op in node.ops):
        if not all(isinstance(side, ast.Constant) for side in node.comparators):
            yield "L20 is"


def bound_names(tree):
    for node in ast.walk(tree):
        if isinstance(node, ast.Name) and isinstance(node.ctx, ast.Store):
            yield node.id
        elif isinstance(node, ast.arg):
            yield node.arg
        elif isinstance(node, (ast.FunctionDef, ast.ClassDef)):
            yield node.name
        elif isinstance(node, ast.alias):
            yield node.asname or node.name
        elif isinstance(node, ast.ExceptHandler) and node.name:
            yield node.name


def faults_of_names(tree, own):
    methods = [part.name for node in ast.walk(tree) if isinstance(node, ast.ClassDef) for part in node.body
               if isinstance(part, ast.FunctionDef)]
    bound = list(bound_names(tree))
    for name in bound:
        if name not in ("__init__", "__eq__", "__repr__", "__str__", "__len__"):
            if not re.fullmatch("[A-Za-z][A-Za-z0-9_]*", name):
                yield "L12 " + name
            if name in PYTHON_NAMES and name not in methods:
                yield "L15 " + name
    for node in ast.walk(tree):
        if isinstance(node, ast.Name) and node.id not in bound and node.id not in OWN_OF_PYTHON:
            yield "L8 " + node.id
        if isinstance(node, ast.Attribute) and node.attr not in METHODS and node.attr not in own:
            yield "L25 " + node.attr


def faults_of_top(tree):
    body = tree.body
    if body and isinstance(body[0], ast.Expr) and isinstance(body[0].value, ast.Constant):
        body = body[1:]
    for node in body:
        if not isinstance(node, (ast.ImportFrom, ast.FunctionDef, ast.ClassDef, ast.Assign)):
            yield "L3 " + type(node).__name__
        if isinstance(node, ast.ImportFrom):
            if node.level or not node.module.startswith("camplay.") or any(name.name == "*" for name in node.names):
                yield "L2 an import"
    for node in ast.walk(tree):
        if isinstance(node, ast.ImportFrom) and node not in body:
            yield "L2 an import below the top"


def faults_of_signs(text):
    if not re.fullmatch(r"[ -~\n]*", text):
        yield "L14 a sign"
    if len(text.splitlines()) > 400 or any(len(line) > 120 for line in text.splitlines()):
        yield "L10 too long"
    for word in re.findall(r"\w+", text):
        if word in OUT or re.search("dataclass|overload|contextmanager", word):
            yield "L17 " + word


# The names that the package's own classes give to their methods and values.
def own_attributes(tree):
    for node in ast.walk(tree):
        if isinstance(node, ast.ClassDef):
            for part in ast.walk(node):
                if isinstance(part, ast.FunctionDef):
                    yield part.name
                if isinstance(part, ast.Attribute) and isinstance(part.ctx, ast.Store):
                    yield part.attr


def faults(text, own=()):
    tree = ast.parse(text)
    found = list(faults_of_signs(text)) + list(faults_of_top(tree))
    found.extend(faults_of_names(tree, list(own) + list(own_attributes(tree))))
    top = tree.body[:1]
    for node in ast.walk(tree):
        if type(node).__name__ not in NODES:
            found.append("L6 L7 " + type(node).__name__)
        elif not (node in top and isinstance(node, ast.Expr)):
            found.extend(faults_of_statement(node))
        found.extend(list(faults_of_def(node)) + list(faults_of_value(node)))
    return found


WRONG = ("import os", "from os import path", "from .errors import NoBook", "x = 1.5", "x = 1 / 2", "x = y = 1",
         "def f(*a):\n    return a", "def f(a):\n    a, b = a\n    return b", "def f(a):\n    \"words\"\n    return a",
         "def f(a):\n    return (b for b in a)", "def f(a):\n    return a.encode()", "def f(min):\n    return min",
         "def f(a):\n    return chr(a)", "def f(a):\n    return 2 ** a", "def f(a):\n    return a is a",
         "def f(a):\n    assert a", "def f(a):\n    with a:\n        pass", "class A:\n    x = 1", "# a type",
         "def _f():\n    return 1", "x = '\u00e4'", "def f(a):\n    return {b: b for b in a}", "x = b''",
         "def f(a):\n    return " + "a + " * 40 + "a", "def f(a):\n" + "    a = a\n" * 40, "print(1)")


class Form(unittest.TestCase):
    def test_the_files_of_the_package(self):
        paths = sorted(PACKAGE.rglob("*.py"))
        texts = [path.read_text(encoding="utf-8") for path in paths]
        own = [name for text in texts for name in own_attributes(ast.parse(text))]
        for path, text in zip(paths, texts):
            self.assertEqual(faults(text, own), [], path.name)

    def test_nothing_else_lies_in_the_package(self):
        found = [path for path in PACKAGE.iterdir() if path.name != "__pycache__"]
        self.assertIn("__init__.py", [path.name for path in found])
        for path in found:
            self.assertRegex(path.name, r"\A[a-z0-9_]+\.py\Z")

    def test_wrong_forms_are_seen(self):
        for text in WRONG:
            self.assertNotEqual(faults(text), [], text)


if __name__ == "__main__":
    unittest.main()
