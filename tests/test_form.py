"""The package held against rules of the language: many of them, not all; what is not seen here is still asked for."""

import ast
import pathlib
import re
import unittest

PACKAGE = pathlib.Path(__file__).resolve().parent.parent / "camplay"

NODES = {name: True for name in """
    Module FunctionDef arguments arg ClassDef ImportFrom alias Return Assign AugAssign For While If Break Continue Pass
    Raise Try ExceptHandler Expr Constant Name Load Store Attribute Subscript Slice Call keyword List Tuple Dict Set
    ListComp comprehension JoinedStr FormattedValue Lambda IfExp BoolOp And Or UnaryOp Not USub UAdd Invert BinOp Add
    Sub Mult FloorDiv Mod Pow LShift RShift BitAnd BitOr BitXor Compare Eq NotEq Lt LtE Gt GtE In NotIn Is IsNot
    """.split()}
OWN_OF_PYTHON = """
    len range enumerate zip min max sum abs sorted reversed int str bool list tuple dict set frozenset isinstance ord
    repr any all divmod Exception ValueError TypeError KeyError IndexError LookupError ZeroDivisionError
    ArithmeticError OverflowError RuntimeError NotImplementedError AttributeError StopIteration
    """.split()
METHODS = """
    append clear copy count endswith extend find get index insert isalnum isalpha isdigit islower isspace isupper items
    join keys ljust lower lstrip partition pop remove replace reverse rfind rjust rpartition rsplit rstrip setdefault
    split splitlines startswith strip update upper values zfill bit_length __init__
    """.split()
OUT = """
    type typing typing_extensions enum Enum IntEnum StrEnum Flag IntFlag Generic Protocol ABC ABCMeta namedtuple
    NamedTuple TypedDict TYPE_CHECKING abstractmethod
    """.split()
PYTHON_ATTRIBUTES = [name for kind in (str, int, list, tuple, dict, set, bytes, ValueError) for name in dir(kind)]
FREE_VALUES = "count index title find get join lower upper split strip copy add".split()
PYTHON_NAMES = dir(__builtins__) if not isinstance(__builtins__, dict) else list(__builtins__)


# One target only, so the tuples of a for and of a comprehension are the only ones that are taken apart.
def faults_of_statement(node):
    targets = node.targets if isinstance(node, ast.Assign) else []
    if len(targets) > 1 or any(isinstance(target, (ast.Tuple, ast.List)) for target in targets):
        yield "L6 one target"
    if isinstance(node, (ast.For, ast.While)) and node.orelse:
        yield "L6 else behind a loop"
    if isinstance(node, ast.Try) and node.finalbody:
        yield "L6 finally"
    if isinstance(node, ast.Expr) and not isinstance(node.value, ast.Call):
        yield "L6 a value by itself"
    if isinstance(node, ast.ExceptHandler) and node.type is None:
        yield "L6 except of nothing"


def faults_of_def(node):
    if isinstance(node, ast.FunctionDef):
        told = node.args
        if told.vararg or told.kwarg or told.kwonlyargs or told.posonlyargs or node.decorator_list:
            yield "L4 plain parameters"
        if node.end_lineno - node.lineno + 1 > 40:
            yield "L10 a def of over 40 lines"
    if isinstance(node, ast.ClassDef):
        if node.decorator_list or node.keywords or len(node.bases) > 1:
            yield "L5 a plain class"
        if not all(isinstance(part, (ast.FunctionDef, ast.Pass)) for part in node.body):
            yield "L5 a value in the class"


def faults_of_value(node):
    if isinstance(node, ast.Constant) and not (node.value is None or isinstance(node.value, (int, str))):
        yield "L7 a value of another kind"
    if isinstance(node, ast.ListComp) and (len(node.generators) > 1 or len(node.generators[0].ifs) > 1):
        yield "L7 a longer comprehension"
    if isinstance(node, ast.FormattedValue) and (not isinstance(node.value, ast.Name) or node.format_spec):
        yield "L7 a plain name in a text"
    if isinstance(node, ast.BinOp) and isinstance(node.op, ast.Pow) and not isinstance(node.right, ast.Constant):
        yield "L27 a written exponent"
    if isinstance(node, ast.Compare) and any(isinstance(op, (ast.Is, ast.IsNot)) for op in node.ops):
        if not all(isinstance(side, ast.Constant) for side in node.comparators):
            yield "L20 is"


def bound_names(tree):
    for node in ast.walk(tree):
        if isinstance(node, ast.Name) and isinstance(node.ctx, ast.Store):
            yield node.id
        elif isinstance(node, ast.arg):
            yield node.arg
        elif isinstance(node, (ast.FunctionDef, ast.ClassDef)):
            yield node.name
        elif isinstance(node, ast.alias):
            yield node.asname or node.name
        elif isinstance(node, ast.ExceptHandler) and node.name:
            yield node.name


def faults_of_names(tree, own):
    methods = [part.name for node in ast.walk(tree) if isinstance(node, ast.ClassDef) for part in node.body
               if isinstance(part, ast.FunctionDef)]
    bound = list(bound_names(tree))
    for name in bound:
        if name not in ("__init__", "__eq__", "__repr__", "__str__", "__len__"):
            if not re.fullmatch("[A-Za-z][A-Za-z0-9_]*", name):
                yield "L12 " + name
            if name in PYTHON_NAMES and name not in methods:
                yield "L15 " + name
    for node in ast.walk(tree):
        if isinstance(node, ast.Name) and node.id not in bound and node.id not in OWN_OF_PYTHON:
            yield "L8 " + node.id
        if isinstance(node, ast.Attribute) and node.attr not in METHODS and node.attr not in own:
            yield "L25 " + node.attr


def faults_of_top(tree):
    body = tree.body
    if body and isinstance(body[0], ast.Expr) and isinstance(body[0].value, ast.Constant):
        body = body[1:]
    for node in body:
        if not isinstance(node, (ast.ImportFrom, ast.FunctionDef, ast.ClassDef, ast.Assign)):
            yield "L3 " + type(node).__name__
        if isinstance(node, ast.ImportFrom):
            if node.level or not node.module.startswith("camplay.") or any(name.name == "*" for name in node.names):
                yield "L2 an import"
    for node in ast.walk(tree):
        if isinstance(node, ast.ImportFrom) and node not in body:
            yield "L2 an import below the top"


def is_plain(node, above):
    if isinstance(node, (ast.List, ast.Tuple)):
        return all(is_plain(one, above) for one in node.elts)
    if isinstance(node, ast.Dict):
        return all(is_plain(one, above) for one in node.keys + node.values)
    return isinstance(node, ast.Constant) or isinstance(node, ast.Name) and node.id in above


# Names of a file's top: plain values, bound once, and no local called like an import or a class.
def faults_of_top_names(tree):
    above = []
    taken = []
    for node in tree.body:
        if isinstance(node, ast.Assign):
            if not is_plain(node.value, above):
                yield "L3 a value that is not plain"
            bound = [node.targets[0].id]
        elif isinstance(node, ast.ImportFrom):
            bound = [name.asname or name.name for name in node.names]
        else:
            bound = [node.name] if isinstance(node, (ast.FunctionDef, ast.ClassDef)) else []
        if isinstance(node, (ast.ImportFrom, ast.ClassDef)):
            taken += bound
        if any(name in above for name in bound):
            yield "L15 bound twice"
        above += bound
    for node in ast.walk(tree):
        name = node.arg if isinstance(node, ast.arg) else node.id if isinstance(node, ast.Name) else None
        if name in taken and not (isinstance(node, ast.Name) and isinstance(node.ctx, ast.Load)):
            yield "L15 a local called like an import: " + name


def called(node):
    return node.func.id if isinstance(node, ast.Call) and isinstance(node.func, ast.Name) else None


def is_walk(node):
    if isinstance(node, ast.Call) and isinstance(node.func, ast.Attribute):
        return node.func.attr in ("items", "keys", "values")
    return called(node) in ("zip", "enumerate", "reversed", "range")


def is_walked(node, around):
    if isinstance(around, (ast.For, ast.comprehension)):
        return around.iter is node
    if called(around) in ("min", "max"):
        return around.args == [node]
    if called(around) in ("list", "tuple", "dict", "sorted", "sum", "any", "all", "enumerate", "zip"):
        return around.args[0] is node
    return isinstance(around, ast.Call) and isinstance(around.func, ast.Attribute) and around.func.attr == "join"


def is_set(node):
    return isinstance(node, ast.Set) or called(node) in ("set", "frozenset")


def faults_of_walks(tree):
    around = {inner: node for node in ast.walk(tree) for inner in ast.iter_child_nodes(node)}
    for node in ast.walk(tree):
        if is_walk(node) and not is_walked(node, around[node]):
            yield "L23 walked at once"
        if is_set(node):
            outer = around[node]
            while isinstance(outer, ast.BinOp):
                outer = around[outer]
            if not (isinstance(outer, ast.Compare) or called(outer) in ("sorted", "len") and not outer.keywords):
                yield "L24 a set"


def faults_of_signs(text):
    if not re.fullmatch(r"[ -~\n]*", text):
        yield "L14 a sign"
    if len(text.splitlines()) > 400 or any(len(line) > 120 for line in text.splitlines()):
        yield "L10 too long"
    for word in re.findall(r"\w+", text):
        if word in OUT or re.search("dataclass|overload|contextmanager", word):
            yield "L17 " + word


def parts_of_classes(tree):
    return [part for node in ast.walk(tree) if isinstance(node, ast.ClassDef) for part in ast.walk(node)]


def own_methods(tree):
    return [part.name for part in parts_of_classes(tree) if isinstance(part, ast.FunctionDef)]


def own_values(tree):
    stored = [part for part in parts_of_classes(tree) if isinstance(part, ast.Attribute)]
    return [part.attr for part in stored if isinstance(part.ctx, ast.Store)]


# The names that the package's own classes give to their methods and values.
def own_attributes(tree):
    return own_methods(tree) + own_values(tree)


# Of all files together: what is a method somewhere is no value anywhere, and neither hides what Python's values have.
def faults_of_attributes(trees):
    methods = [name for tree in trees for name in own_methods(tree)]
    values = [name for tree in trees for name in own_values(tree)]
    for name in values:
        if name in methods:
            yield "L18 " + name
        if name in PYTHON_ATTRIBUTES and name not in FREE_VALUES:
            yield "L26 " + name
    for name in methods:
        if name in PYTHON_ATTRIBUTES and name not in METHODS + ["add", "discard"]:
            yield "L26 " + name


def faults(text, own=()):
    tree = ast.parse(text)
    found = list(faults_of_signs(text)) + list(faults_of_top(tree))
    found.extend(list(faults_of_top_names(tree)) + list(faults_of_walks(tree)))
    found.extend(faults_of_names(tree, list(own) + list(own_attributes(tree))))
    top = tree.body[:1]
    for node in ast.walk(tree):
        if type(node).__name__ not in NODES:
            found.append("L6 L7 " + type(node).__name__)
        elif not (node in top and isinstance(node, ast.Expr)):
            found.extend(faults_of_statement(node))
        found.extend(list(faults_of_def(node)) + list(faults_of_value(node)))
    return found


WRONG = ("import os", "from os import path", "from .errors import NoBook", "x = 1.5", "x = 1 / 2", "x = y = 1",
         "def f(*a):\n    return a", "def f(a):\n    a, b = a\n    return b", "def f(a):\n    \"words\"\n    return a",
         "def f(a):\n    return (b for b in a)", "def f(a):\n    return a.encode()", "def f(min):\n    return min",
         "def f(a):\n    return chr(a)", "def f(a):\n    return 2 ** a", "def f(a):\n    return a is a",
         "def f(a):\n    assert a", "def f(a):\n    with a:\n        pass", "class A:\n    x = 1", "# a type",
         "def _f():\n    return 1", "x = '\u00e4'", "def f(a):\n    return {b: b for b in a}", "x = b''",
         "def f(a):\n    return " + "a + " * 40 + "a", "def f(a):\n" + "    a = a\n" * 40, "print(1)",
         "x = 10 ** 60", "x = 1\nx = 2", "from camplay.ramps import ramp\ndef f(ramp):\n    return ramp",
         "from camplay.ramps import ramp\ndef f(a):\n    ramp = a\n    return ramp",
         "def f(a):\n    b = range(a)\n    return b", "def f(a):\n    return a.items()",
         "def f(a):\n    a.extend(reversed(a))", "def f(a):\n    return zip([], range(a))",
         "def f(a):\n    return set(a)", "def f(a):\n    b = set(a) | set(a)\n    return b",
         "def f(a):\n    for b in set(a):\n        a = b")
# Forms that are near to wrong ones, and are not.
RIGHT = ("def f(a):\n    return sorted(a.items())", "def f(a):\n    return len(set(a) | set(a))",
         "def f(a):\n    return a in set(a)", "def f(a):\n    return list(zip(a, a))", "x = (1, 2)\ny = {'a': (1, 2)}",
         "def f(a):\n    for b, c in enumerate(a[1:], start=1):\n        a = b + c\n    return a",
         "def f(a):\n    return [b for b in range(a) if b]", "def f(a):\n    return 10 ** 60 + a")


class Form(unittest.TestCase):
    def test_the_files_of_the_package(self):
        paths = sorted(PACKAGE.rglob("*.py"))
        texts = [path.read_text(encoding="utf-8") for path in paths]
        own = [name for text in texts for name in own_attributes(ast.parse(text))]
        for path, text in zip(paths, texts):
            self.assertEqual(faults(text, own), [], path.name)
        self.assertEqual(list(faults_of_attributes([ast.parse(text) for text in texts])), [])

    def test_nothing_else_lies_in_the_package(self):
        found = [path for path in PACKAGE.iterdir() if path.name != "__pycache__"]
        self.assertIn("__init__.py", [path.name for path in found])
        for path in found:
            self.assertRegex(path.name, r"\A[a-z0-9_]+\.py\Z")

    def test_wrong_forms_are_seen(self):
        for text in WRONG:
            self.assertNotEqual(faults(text), [], text)

    def test_right_forms_are_let_through(self):
        for text in RIGHT:
            self.assertEqual(faults(text), [], text)

    def test_names_of_methods_and_values(self):
        start = "class A:\n    def __init__(self):\n        "
        method = "class B:\n    def "
        for texts in ((start + "self.go = 1", method + "go(self):\n        return 1"), (start + "self.items = []",),
                      (start + "self.args = 1",), (method + "sort(self):\n        return 1",)):
            self.assertNotEqual(list(faults_of_attributes([ast.parse(text) for text in texts])), [], texts)
        texts = (start + "self.count = 1", method + "go(self):\n        return 1", start + "self.many = 1")
        self.assertEqual(list(faults_of_attributes([ast.parse(text) for text in texts])), [])

    # From the very file that defines the name, and never in a ring.
    def test_files_draw_from_those_that_define_the_name(self):
        trees = {path.stem: ast.parse(path.read_text(encoding="utf-8")) for path in PACKAGE.glob("*.py")}
        drawn = {stem: [] for stem in trees}
        for stem, tree in trees.items():
            for node in tree.body:
                if isinstance(node, ast.ImportFrom):
                    source = node.module.split(".")[1]
                    drawn[stem].append(source)
                    defs = [one for one in trees[source].body if isinstance(one, (ast.FunctionDef, ast.ClassDef))]
                    defined = [one.name for one in defs]
                    for name in node.names:
                        self.assertIn(name.name, defined, (stem, source))
        while drawn:
            free = [stem for stem in drawn if not any(source in drawn for source in drawn[stem])]
            self.assertNotEqual(free, [], drawn)
            drawn = {stem: drawn[stem] for stem in drawn if stem not in free}


if __name__ == "__main__":
    unittest.main()
