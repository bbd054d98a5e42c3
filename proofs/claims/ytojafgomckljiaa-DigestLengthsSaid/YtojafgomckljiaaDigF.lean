/-
  The calls whose answers the document fixes.
-/
import Derived.Test.YtojafgomckljiaaDigE
namespace Go.Proofs.Ytojafgomckljiaa
open Go.RowKit Go

def K16 : ByteArray := ⟨#[0, 1, 2, 3, 4, 5, 6, 7, 8, 9, 10, 11, 12, 13, 14, 15]⟩
def K15 : ByteArray := ⟨#[0, 1, 2, 3, 4, 5, 6, 7, 8, 9, 10, 11, 12, 13, 14]⟩
theorem fx1 : sumV K16.data.toList K15.data.toList = .tuple #[.string ⟨#[229, 69, 190, 73, 97, 202, 41, 161]⟩, .int .i64 0] := by
  rw [sumV, if_pos (by decide), show sum K16.data.toList K15.data.toList = [229, 69, 190, 73, 97, 202, 41, 161] by decide +kernel]; rfl
theorem fx2 : sumV K16.data.toList [] = .tuple #[.string ⟨#[49, 14, 14, 221, 71, 219, 111, 114]⟩, .int .i64 0] := by
  rw [sumV, if_pos (by decide), show sum K16.data.toList [] = [49, 14, 14, 221, 71, 219, 111, 114] by decide +kernel]; rfl
theorem fx3 : sumV [120] [] = .tuple #[.string ⟨#[]⟩, .int .i64 20] := by
  rw [sumV, if_neg (by decide)]; rfl

set_option maxRecDepth 100000 in
set_option maxHeartbeats 4000000 in
theorem fixed_any (w : World) :
    Calls Try.prog 10 #[] w fun e w' => e = .returned (.bool true) ∧ Below w.heap.size w w' := by
  have e15 : (⟨#[0, 1, 2, 3, 4, 5, 6, 7, 8, 9, 10, 11, 12, 13, 14, 15]⟩ : ByteArray).extract 0 15 = ⟨#[0, 1, 2, 3, 4, 5, 6, 7, 8, 9, 10, 11, 12, 13, 14]⟩ := by decide +kernel
  go_enter Try.func10, Try.ntmps10
  go_wp2_with fail
  refine (dsum_any K16 K15 (by decide) (by decide) _).mono ?_
  rintro e w1 ⟨rfl, hB1⟩
  rw [fx1]
  go_wp2_with fail
  refine (dsum_any K16 ⟨#[]⟩ (by decide) (by decide) _).mono ?_
  rintro e w2 ⟨rfl, hB2⟩
  rw [show (⟨#[]⟩ : ByteArray).data.toList = [] from rfl, fx2]
  have h2 : Below w.heap.size w w2 := hB1.trans (hB2.mono hB1.size)
  clear hB1 hB2
  go_wp2_with fail
  refine (dsum_any ⟨#[120]⟩ ⟨#[]⟩ (by decide) (by decide) _).mono ?_
  rintro e w3 ⟨rfl, hB3⟩
  rw [show (⟨#[]⟩ : ByteArray).data.toList = [] from rfl, show (⟨#[120]⟩ : ByteArray).data.toList = [120] from rfl, fx3]
  have h3 : Below w.heap.size w w3 := h2.trans (hB3.mono h2.size)
  clear h2 hB3
  go_wp2_with fail
  refine (new_wrong ⟨#[]⟩ (by decide) (by decide) _).mono ?_
  rintro e w4 ⟨rfl, rfl⟩
  go_wp2
  go_ret
  exact ⟨rfl, h3⟩
end Go.Proofs.Ytojafgomckljiaa
