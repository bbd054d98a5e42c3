/-
  In TabA's place, in stage 13's seat.
-/
import Derived.Test.YtmloljjllmmkoaaDoorCmdTA

