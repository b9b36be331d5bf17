/-
  PLAIN: what the program tells of its types: all in one text.
-/
import Derived.Test.YtdoennkmcloalaaSl
import Derived.Test.YtdoennkmcloalaaSc
import Derived.Test.YtdoennkmcloalaaMid
import Derived.Test.YtdoennkmcloalaaTyAll
