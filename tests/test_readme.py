"""The examples of README.md answer as it says."""
import ast
import pathlib
import re
import unittest

README = pathlib.Path(__file__).resolve().parent.parent / "README.md"


class ReadmeTest(unittest.TestCase):
    def test_examples(self):
        example = re.search(r"```python\n(.*?)```", README.read_text(encoding="utf-8"), re.DOTALL).group(1)
        names = {}
        called = set()
        for line in example.splitlines():
            call, sign, answer = line.partition("  # ")
            if not sign:
                exec(line, names)
                continue
            with self.subTest(line=line):
                self.assertEqual(eval(call, names), ast.literal_eval(answer))
            called.add(call.partition("(")[0])
        self.assertEqual(called, {"length", "take", "put", "move", "find", "compare", "sum_of"})


if __name__ == "__main__":
    unittest.main()
