"""What the interface says of the whole package."""

import ast
import inspect
import pathlib
import unittest

from made64 import numbers

PACKAGE = pathlib.Path(numbers.__file__).parent

PARAMETERS = {
    "common": ["a", "b"],
    "power": ["a", "e", "m"],
    "inverse": ["a", "m"],
    "prime": ["n"],
    "next_of": ["n"],
    "parts": ["n"],
    "coprimes": ["n"],
    "root": ["n", "k"],
    "square": ["a", "p"],
    "jacobi": ["a", "n"],
    "order": ["a", "m"],
    "rests": ["r", "m"],
}


class InterfaceTest(unittest.TestCase):

    def test_the_calls_take_what_is_told(self):
        for name, parameters in PARAMETERS.items():
            call = getattr(numbers, name)
            self.assertEqual(list(inspect.signature(call).parameters), parameters, name)

    def test_the_package_imports_prints_and_reads_nothing(self):
        files = sorted(PACKAGE.glob("*.py"))
        self.assertTrue(files)
        for file in files:
            for node in ast.walk(ast.parse(file.read_text())):
                self.assertNotIsInstance(node, (ast.Import, ast.ImportFrom), file)
                if isinstance(node, ast.Name):
                    self.assertNotIn(node.id, ("print", "input", "open", "__import__"), file)
