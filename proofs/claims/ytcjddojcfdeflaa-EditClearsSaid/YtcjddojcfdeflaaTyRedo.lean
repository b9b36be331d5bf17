/-
  PLAIN: what the program tells of its types: all in one text.
-/
import Derived.Test.YtcjddojcfdeflaaSl
import Derived.Test.YtcjddojcfdeflaaTyAll
