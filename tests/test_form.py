"""What is asked of the package's files themselves: the interface, and that it only counts."""

import ast
import contextlib
import inspect
import io
import pathlib
import unittest

from cacherules import cache
from cacherules import misses as module

PACKAGE = pathlib.Path(module.__file__).parent


def sources():
    return {path.name: path.read_text(encoding="utf-8") for path in sorted(PACKAGE.glob("*.py"))}


class Interface(unittest.TestCase):
    def test_misses_takes_rule_room_and_keys(self):
        asked = inspect.getfullargspec(module.misses)
        self.assertEqual(asked, (["rule", "room", "keys"], None, None, None, [], None, {}))
        self.assertEqual(module.misses.__module__, "cacherules.misses")
        self.assertEqual(module.misses(rule=1, room=2, keys=[1, 2, 1, 3, 1]), [3])

    def test_curve_takes_most_and_keys(self):
        asked = inspect.getfullargspec(module.curve)
        self.assertEqual(asked, (["most", "keys"], None, None, None, [], None, {}))
        self.assertEqual(module.curve.__module__, "cacherules.misses")
        self.assertEqual(module.curve(most=3, keys=[1, 2, 1, 3, 1]), [0, 5, 3, 3])

    def test_answers_takes_calls(self):
        asked = inspect.getfullargspec(cache.answers)
        self.assertEqual(asked, (["calls"], None, None, None, [], None, {}))
        self.assertEqual(cache.answers.__module__, "cacherules.cache")
        self.assertEqual(cache.answers(calls=[1, 1, 2, 2, 7, 5]), [1, 0, 1, 0, 2, 1, 7])

    def test_the_package_holds_nothing_but_its_files(self):
        held = {path.name for path in PACKAGE.iterdir()} - {"__pycache__"}
        self.assertEqual(held, set(sources()))


class OnlyCounts(unittest.TestCase):
    def test_it_imports_nothing_and_calls_nothing_that_reads_or_prints(self):
        outside = {"print", "open", "input", "__import__", "exec", "eval", "globals"}
        for name, source in sources().items():
            for node in ast.walk(ast.parse(source)):
                self.assertNotIsInstance(node, (ast.Import, ast.ImportFrom, ast.Global, ast.Nonlocal), name)
                if isinstance(node, ast.Name):
                    self.assertNotIn(node.id, outside, name)

    def test_it_prints_nothing(self):
        out, err = io.StringIO(), io.StringIO()
        with contextlib.redirect_stdout(out), contextlib.redirect_stderr(err):
            for rule in range(-1, 6):
                module.misses(rule, 2, [1, 2, 1, 3, 1])
            for most in (0, 1, 2, 1024):
                module.curve(most, [1, 2, 1, 3, 1])
            for rule in range(5):
                cache.answers([1, rule, 1, 2, 7, 2, 7, 2, 8, 4, 7, 5, 3, 8, 3, 8, 5, 1, 5, 0])
        self.assertEqual(out.getvalue() + err.getvalue(), "")

    def test_nothing_kept_at_a_files_top_can_change(self):
        for name, source in sources().items():
            for node in ast.parse(source).body:
                if isinstance(node, ast.Assign):
                    self.assertIsInstance(ast.literal_eval(node.value), (int, str, tuple), name)


class Size(unittest.TestCase):
    def test_files_lines_and_functions_are_small(self):
        for name, source in sources().items():
            rows = source.split("\n")
            self.assertLessEqual(len(rows), 399, name)
            self.assertLessEqual(max(len(row) for row in rows), 120, name)
            self.assertTrue(all(sign == "\n" or " " <= sign <= "~" for sign in source), name)
            for node in ast.walk(ast.parse(source)):
                if isinstance(node, ast.FunctionDef):
                    self.assertLessEqual(node.end_lineno - node.lineno + 1, 40, node.name)


if __name__ == "__main__":
    unittest.main()
