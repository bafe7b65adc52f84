/-
  Boxes of spans: in this seat they are told by the texts on MeetOf.
-/
import Derived.Test.YtnacaglpfpdppaaMeetOf
