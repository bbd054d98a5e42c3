/-
  A reader: Text.
-/
import Derived.Test.YtgeggiafjojgdaaDoorWirE
namespace Go.Proofs.YtgeggiafjojgdaaDoor
open Go.RowKit Go

set_option maxRecDepth 100000 in
set_option maxHeartbeats 2000000 in
theorem qtext_any (b : Nat) (hb0 : b ≠ 0) (r : Rd) (most : Int) (hs : r.rest.length ≤ 281474976710656) (w : World) (hg : GE w) (hb : w.heap[b]? = some (RO r)) :
    Calls Tryd.prog 30 #[.pointer (some ⟨b, 0, none⟩), .int .i64 most] w fun v w' => v = .returned (textV (textR r most)) ∧ Moved b (RO (textR r most).2) w w' := by
  have hlow := low_walk most
  have HT := Lib.hid (show textR r most = bytesR (numR r (low most)).2 (numR r (low most)).1 from rfl)
  have C := rnum_any b r (low most) hs
  have hn := numR_low r most
  have hr := numR_rest r (low most)
  generalize low most = m at *
  generalize numR r m = p at *
  have C2 := rbytes_any b p.2 p.1 (by omega) hn
  rw [HT.out]
  clear HT
  generalize bytesR p.2 p.1 = q at *
  go_enter Tryd.func30, Tryd.ntmps30
  go_wp2_with fail
  refine (C _ hb).mono ?_
  rintro e w1 ⟨rfl, hM⟩
  go_wp2_with fail
  refine (C2 _ hM.here).mono ?_
  rintro e w2 ⟨rfl, hM2⟩
  have hM3 := hM.trans hM2
  have c1 := RO.c1 hM3.here
  have hg1 := hg.moved hM3 hb0
  go_wp2_with fail
  refine (errno_any _ _ hg1).mono ?_
  rintro e w3 ⟨rfl, hB⟩
  go_wp2_with fail
  go_ret2
  exact ⟨rfl, hM3.and hB⟩


theorem qnum_is {b : Nat} (hb0 : b ≠ 0) {r r' : Rd} {most : Int} {n : Nat} {e : Int} (hq : numR r most = (n, r')) (he : r'.err = e) (hs : r.rest.length ≤ 281474976710656) (w : World) (hg : GE w) (hb : w.heap[b]? = some (RO r)) :
    Calls Tryd.prog 29 #[.pointer (some ⟨b, 0, none⟩), .int .i64 most] w fun v w' => v = .returned (.tuple #[.int .i64 n, .int .i64 e]) ∧ Moved b (RO r') w w' := by
  have h := qnum_any b hb0 r most hs w hg hb
  rw [hq] at h
  rw [← he]
  exact h
theorem qtext_is {b : Nat} (hb0 : b ≠ 0) {r r' : Rd} {most : Int} {l : List UInt8} {L : ByteArray} {e : Int} (hq : textR r most = (l, r')) (hL : bs l = L) (he : r'.err = e) (hs : r.rest.length ≤ 281474976710656) (w : World) (hg : GE w) (hb : w.heap[b]? = some (RO r)) :
    Calls Tryd.prog 30 #[.pointer (some ⟨b, 0, none⟩), .int .i64 most] w fun v w' => v = .returned (.tuple #[.string L, .int .i64 e]) ∧ Moved b (RO r') w w' := by
  have h := qtext_any b hb0 r most hs w hg hb
  rw [hq] at h
  rw [← he, ← hL]
  exact h
theorem qend_is {b : Nat} {r : Rd} {e : Int} (he : endR r = e) (w : World) (hg : GE w) (hb : w.heap[b]? = some (RO r)) :
    Calls Tryd.prog 31 #[.pointer (some ⟨b, 0, none⟩)] w fun v w' => v = .returned (.int .i64 e) ∧ Below w.heap.size w w' := by
  rw [← he]
  exact qend_any b r w hg hb
end Go.Proofs.YtgeggiafjojgdaaDoor

