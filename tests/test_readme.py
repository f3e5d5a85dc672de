"""The README's examples answer what stands beside them."""

import ast
import unittest
from pathlib import Path

from glasssheets import layouts

README = Path(__file__).resolve().parent.parent / "README.md"


class Examples(unittest.TestCase):
    def test_examples(self):
        known = {name: getattr(layouts, name) for name in "blank judge lay cuts where left tight".split()}
        code = README.read_text("utf-8").split("```python\n")[2].split("```")[0]
        known["cartoon"] = ast.literal_eval(code[code.index("["):code.index("]\n") + 1])
        examples = [line.split("#") for line in code.splitlines() if "#" in line]
        tried = set()
        for call, due in examples:
            self.assertEqual(eval(call, known), ast.literal_eval(due.strip()), call)
            tried.add(call.split("(")[0])
        self.assertEqual(tried, set(known) - {"cartoon", "__builtins__"})


if __name__ == "__main__":
    unittest.main()
