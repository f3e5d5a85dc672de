"""The package keeps to the small part of Python that it is written in, as far as a walk over its code can see."""

import ast
import builtins
import re
import unittest
from pathlib import Path

PACKAGE = Path(__file__).resolve().parent.parent / "glasssheets"

ALLOWED_NODES = (
    ast.Module, ast.Expr, ast.ImportFrom, ast.alias, ast.FunctionDef, ast.ClassDef, ast.arguments, ast.arg,
    ast.Assign, ast.If, ast.While, ast.For, ast.Return, ast.Break, ast.Continue, ast.Pass, ast.Raise,
    ast.Constant, ast.List, ast.Tuple, ast.Dict, ast.BinOp, ast.UnaryOp, ast.BoolOp, ast.Compare, ast.IfExp,
    ast.Call, ast.Attribute, ast.Subscript, ast.Slice, ast.ListComp, ast.comprehension, ast.Name, ast.keyword,
    ast.Load, ast.Store, ast.Lambda, ast.operator, ast.unaryop, ast.boolop, ast.cmpop,
)
OPERATORS = (ast.Add, ast.Sub, ast.Mult, ast.FloorDiv, ast.Mod, ast.BitAnd, ast.BitOr, ast.BitXor, ast.LShift,
             ast.RShift)
BUILT_IN = """len range enumerate zip min max sum abs sorted reversed int str bool list tuple dict isinstance ord repr
any all divmod""".split()
METHODS = """append clear copy count endswith extend find get index insert isalnum isalpha isdigit islower isspace
isupper items join keys ljust lower lstrip partition pop remove replace reverse rfind rjust rpartition rsplit rstrip
setdefault split splitlines startswith strip update upper values zfill bit_length""".split()
WALKED = ("zip", "enumerate", "reversed", "range")
WALKERS = ("list", "tuple", "dict", "sorted", "sum", "any", "all", "enumerate", "zip", "min", "max")
NO_WORDS = """type typing typing_extensions enum Enum IntEnum StrEnum Flag IntFlag Generic Protocol ABC ABCMeta
namedtuple NamedTuple TypedDict TYPE_CHECKING abstractmethod""".split()
NO_NAMES = """register mro elements open input version_info with_traceback add_note attrgetter breakpoint compile
copyright credits delattr dir eval exec exit gc getattr globals hasattr help id importlib license locals methodcaller
os quit setattr super vars sys format format_map""".split()
VALUES_NOT_CALLED = """items keys values pop update append clear extend insert remove reverse setdefault sort args
encode format""".split()


def files():
    return sorted(path for path in PACKAGE.rglob("*") if "__pycache__" not in path.parts)


def trees():
    return [(path.name, ast.parse(path.read_text("utf-8"))) for path in files()]


def parents(tree):
    return {child: node for node in ast.walk(tree) for child in ast.iter_child_nodes(node)}


def bound_names(tree):
    """All names that a file binds: by assignment, loop, parameter, def or class."""
    names = []
    for node in ast.walk(tree):
        if isinstance(node, ast.Name) and isinstance(node.ctx, ast.Store):
            names.append(node.id)
        if isinstance(node, ast.arg):
            names.append(node.arg)
        if isinstance(node, (ast.FunctionDef, ast.ClassDef)):
            names.append(node.name)
    return names


class Files(unittest.TestCase):
    def test_plain_files_alone(self):
        self.assertIn(PACKAGE / "__init__.py", files())
        for path in files():
            self.assertTrue(path.is_file() and re.fullmatch("[a-z][a-z0-9_]*[.]py|__init__[.]py", path.name), path)
            self.assertNotIn(path.stem, dir(builtins) + NO_NAMES + ["test", "tests", "testing", "site", "conftest"])

    def test_signs_and_sizes(self):
        for path in files():
            text = path.read_bytes()
            self.assertEqual([byte for byte in text if byte != 10 and not 32 <= byte <= 126], [], path)
            lines = text.decode("ascii").splitlines()
            self.assertLessEqual(len(lines), 400, path)
            self.assertLessEqual(max(len(line) for line in lines), 120, path)

    def test_functions_have_40_lines_at_most(self):
        for name, tree in trees():
            for node in ast.walk(tree):
                if isinstance(node, ast.FunctionDef):
                    self.assertLessEqual(node.end_lineno - node.lineno + 1, 40, (name, node.name))

    def test_words_that_stand_nowhere(self):
        for path in files():
            words = re.findall("[A-Za-z0-9_]+", path.read_text("ascii"))
            self.assertEqual(sorted(set(words) & set(NO_WORDS)), [], path)
            for part in ("dataclass", "overload", "contextmanager"):
                self.assertNotIn(part, path.read_text("ascii"), path)


class Forms(unittest.TestCase):
    def test_statements_and_expressions(self):
        for name, tree in trees():
            for node in ast.walk(tree):
                where = (name, getattr(node, "lineno", 0), ast.dump(node)[:60])
                self.assertIsInstance(node, ALLOWED_NODES, where)
                if isinstance(node, ast.BinOp):
                    self.assertIsInstance(node.op, OPERATORS, where)
                if isinstance(node, ast.Assign):
                    self.assertEqual(len(node.targets), 1, where)
                    self.assertNotIsInstance(node.targets[0], (ast.Tuple, ast.List), where)
                if isinstance(node, (ast.For, ast.While)):
                    self.assertEqual(node.orelse, [], where)
                if isinstance(node, ast.Constant):
                    self.assertIn(type(node.value), (int, str, bool, type(None)), where)
                if isinstance(node, ast.ListComp):
                    self.assertEqual(len(node.generators), 1, where)
                    self.assertLessEqual(len(node.generators[0].ifs), 1, where)
                if isinstance(node, ast.Compare) and isinstance(node.ops[0], (ast.Is, ast.IsNot)):
                    self.assertIsInstance(node.comparators[0], ast.Constant, where)
                if isinstance(node, ast.Expr):
                    self.assertIsInstance(node.value, (ast.Call, ast.Constant), where)

    def test_functions_and_classes(self):
        for name, tree in trees():
            for node in ast.walk(tree):
                if isinstance(node, ast.FunctionDef):
                    handed = node.args
                    self.assertFalse(node.decorator_list or handed.vararg or handed.kwarg or handed.kwonlyargs
                                     or handed.posonlyargs or node.returns, (name, node.name))
                if isinstance(node, ast.ClassDef):
                    self.assertIn(node, tree.body)
                    self.assertFalse(node.decorator_list or node.keywords)
                    for inner in node.body:
                        text = isinstance(inner, ast.Expr) and isinstance(inner.value, ast.Constant)
                        self.assertTrue(text or isinstance(inner, ast.FunctionDef), (name, node.name))

    def test_top_of_a_file(self):
        for name, tree in trees():
            bound = []
            for node in tree.body:
                self.assertIsInstance(node, (ast.Expr, ast.ImportFrom, ast.FunctionDef, ast.ClassDef, ast.Assign), name)
                if isinstance(node, ast.Assign):
                    bound.append(node.targets[0].id)
                    for inner in ast.walk(node.value):
                        self.assertIsInstance(inner, (ast.Constant, ast.Tuple, ast.Name, ast.Load), name)
                if isinstance(node, (ast.FunctionDef, ast.ClassDef)):
                    bound.append(node.name)
                if isinstance(node, ast.ImportFrom):
                    bound += [alias.asname or alias.name for alias in node.names]
            self.assertEqual(len(bound), len(set(bound)), name)

    def test_walked_at_once(self):
        for name, tree in trees():
            above = parents(tree)
            for node in ast.walk(tree):
                if isinstance(node, ast.Call) and called(node) in WALKED:
                    outer = above[node]
                    walked = isinstance(outer, (ast.For, ast.comprehension)) and outer.iter is node
                    handed = isinstance(outer, ast.Call) and called(outer) in WALKERS and outer.args[0] is node
                    self.assertTrue(walked or handed, (name, node.lineno))


def called(node):
    """The name that a call calls, if it is a plain one."""
    return node.func.id if isinstance(node.func, ast.Name) else None


class Names(unittest.TestCase):
    def test_imports(self):
        drawn = {}
        for name, tree in trees():
            drawn[name] = []
            for node in ast.walk(tree):
                if isinstance(node, ast.ImportFrom):
                    self.assertIn(node, tree.body)
                    self.assertEqual((node.level, node.module.split(".")[0]), (0, "glasssheets"))
                    source = node.module.split(".")[1] + ".py"
                    drawn[name].append(source)
                    defined = dict(trees())[source].body
                    tops = [n.name for n in defined if isinstance(n, (ast.FunctionDef, ast.ClassDef))]
                    tops += [n.targets[0].id for n in defined if isinstance(n, ast.Assign)]
                    for alias in node.names:
                        self.assertIn(alias.name, tops, (name, source))
        while drawn:
            free = [name for name in drawn if not set(drawn[name]) & set(drawn)]
            self.assertTrue(free, f"files that draw from one another: {sorted(drawn)}")
            for name in free:
                drawn.pop(name)

    def test_every_import_is_used(self):
        for name, tree in trees():
            used = [node.id for node in ast.walk(tree) if isinstance(node, ast.Name)]
            for node in tree.body:
                if isinstance(node, ast.ImportFrom):
                    for alias in node.names:
                        self.assertIn(alias.name, used, name)

    def test_names_that_are_bound(self):
        for name, tree in trees():
            imported = [alias.name for node in tree.body if isinstance(node, ast.ImportFrom) for alias in node.names]
            classes = [node.name for node in tree.body if isinstance(node, ast.ClassDef)]
            for bound in bound_names(tree):
                self.assertRegex(bound, "^([A-Za-z][A-Za-z0-9_]*|__init__)$", name)
                self.assertNotIn(bound, dir(builtins) + NO_NAMES + imported, name)
            for node in ast.walk(tree):
                if isinstance(node, ast.arg) or isinstance(node, ast.Name) and isinstance(node.ctx, ast.Store):
                    self.assertNotIn(getattr(node, "arg", getattr(node, "id", None)), classes, name)

    def test_names_that_are_used(self):
        for name, tree in trees():
            known = bound_names(tree) + BUILT_IN
            known += [alias.name for node in tree.body if isinstance(node, ast.ImportFrom) for alias in node.names]
            for node in ast.walk(tree):
                if isinstance(node, ast.Name):
                    self.assertIn(node.id, known, (name, node.lineno))

    def test_methods_and_values(self):
        methods, values = set(), set()
        for name, tree in trees():
            for node in ast.walk(tree):
                if isinstance(node, ast.ClassDef):
                    methods |= {inner.name for inner in node.body if isinstance(inner, ast.FunctionDef)}
                if isinstance(node, ast.Attribute) and isinstance(node.ctx, ast.Store):
                    values.add(node.attr)
        self.assertEqual(methods & values, set())
        self.assertEqual(values & set(VALUES_NOT_CALLED), set())
        for name, tree in trees():
            above = parents(tree)
            for node in ast.walk(tree):
                if isinstance(node, ast.Attribute) and isinstance(node.ctx, ast.Load):
                    call = isinstance(above[node], ast.Call) and above[node].func is node
                    self.assertIn(node.attr, METHODS + sorted(methods) if call else values, (name, node.lineno))


if __name__ == "__main__":
    unittest.main()
