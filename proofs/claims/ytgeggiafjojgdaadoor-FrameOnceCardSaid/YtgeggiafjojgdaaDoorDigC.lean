/-
  A sum that goes on: New, Write, Sum; and the sum at once.
-/
import Derived.Test.YtgeggiafjojgdaaDoorDigB
import Derived.Deep.RegionWith
import Derived.Laws.Rows
namespace Go.Proofs.YtgeggiafjojgdaaDoor.DG
open Go.RowKit Go

/-- a sum that goes on, in memory -/
def HObj (h : Hs) : Obj := W4 h.four [.int .u64 (h.part.toNat : Int), .int .u8 (h.size.toNat : Int)] 76

theorem extract_take (s : ByteArray) (k : Nat) : (s.extract 0 k).data.toList = s.data.toList.take k := by
  rw [Lib.extract_data, List.drop_zero, Nat.sub_zero]
theorem extract_drop (s : ByteArray) (k : Nat) : (s.extract k s.size).data.toList = s.data.toList.drop k := by
  rw [Lib.extract_data, List.take_of_length_le (by simp)]

set_option maxRecDepth 100000 in
set_option maxHeartbeats 1000000 in
theorem new_any (s : ByteArray) (hs : s.size = 16) (w : World) :
    Calls Tryd.prog 38 #[.string s] w fun e w' => ∃ b, e = .returned (.tuple #[.pointer (some ⟨b, 0, none⟩), .int .i64 0]) ∧ w.heap.size ≤ b ∧ w'.heap[b]? = some (HObj (new s.data.toList)) ∧ Below w.heap.size w w' := by
  have k1 : (s.extract 0 8).size ≤ 8 := by simp; omega
  have k2 : (s.extract 8 16).size ≤ 8 := by simp; omega
  have l1 := extract_take s 8
  have l2 := extract_drop s 8
  rw [hs] at l2
  have C1 := fun w => word_any (s.extract 0 8) k1 w
  have C2 := fun w => word_any (s.extract 8 16) k2 w
  rw [l1] at C1
  rw [l2] at C2
  have C3 := fun w => start_any (word (s.data.toList.take 8)) (word (s.data.toList.drop 8)) w
  obtain ⟨z, hz⟩ : ∃ z, start (word (s.data.toList.take 8)) (word (s.data.toList.drop 8)) = z := ⟨_, rfl⟩
  rw [hz] at C3
  have hN := Lib.hid (show new s.data.toList = ⟨z, 0, 0⟩ by rw [← hz]; rfl)
  have hn16 : ((s.size : Int) != 16) = false := by rw [hs]; rfl
  have hi : (s.size : Int) = 16 := by rw [hs]; rfl
  clear k1 k2 l1 l2 hz
  obtain ⟨p, hp⟩ : ∃ p, s.extract 0 8 = p := ⟨_, rfl⟩
  obtain ⟨q, hq⟩ : ∃ q, s.extract 8 16 = q := ⟨_, rfl⟩
  obtain ⟨k, hk⟩ : ∃ k, word (s.data.toList.take 8) = k := ⟨_, rfl⟩
  obtain ⟨l, hl⟩ : ∃ l, word (s.data.toList.drop 8) = l := ⟨_, rfl⟩
  rw [hp, hk] at C1
  rw [hq, hl] at C2
  rw [hk, hl] at C3
  clear hk hl
  have C12 : ∀ (U : ByteArray) (V : UInt64) (w : World), (U = p ∧ V = k ∨ U = q ∧ V = l) → Calls Tryd.prog 46 #[.string U] w fun e w' => e = .returned (.int .u64 V.toNat) ∧ w = w' := by
    rintro U V w (⟨rfl, rfl⟩ | ⟨rfl, rfl⟩)
    · exact C1 w
    · exact C2 w
  clear C1 C2
  go_enter Tryd.func38, Tryd.ntmps38
  go_wp2
  go_region_with (first
    | (go_at_call 46; refine (C12 _ _ _ (by first | exact Or.inl ⟨rfl, rfl⟩ | exact Or.inr ⟨rfl, rfl⟩)).mono ?_; rintro e w' ⟨rfl, rfl⟩)
    | (go_at_call 45; refine (C3 _).mono ?_; rintro e w' ⟨rfl, hB⟩))
  all_goals (
    go_wp2_with fail
    go_ret2
    refine ⟨w'.heap.size, rfl, hB.size, ?_, (Below.refl _ _).drew.trans (hB.alloc hB.size _)⟩
    rw [hN.out, heap_alloc_new]
    rfl)

theorem new_wrong (s : ByteArray) (hs : s.size ≠ 16) (_hm : s.size ≤ 281474976710656) (w : World) :
    Calls Tryd.prog 38 #[.string s] w fun e w' => e = .returned (.tuple #[.pointer none, .int .i64 20]) ∧ w = w' := by
  have hn : ((s.size : Int) != 16) = true := by simp; omega
  go_enter Tryd.func38, Tryd.ntmps38
  go_wp2
  go_ret2
  exact ⟨rfl, rfl⟩
end Go.Proofs.YtgeggiafjojgdaaDoor.DG

