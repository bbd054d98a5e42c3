/-
  A disk of any bytes: its sectors; Open.
-/
import Derived.Test.YtmbknpipefbelaaDskO
import Derived.Lib.ConvBytes
namespace Go.Proofs.Ytmbknpipefbelaa
open Go.RowKit Go Go.Maps SM

/-- the sectors of a text -/
def parts (x : ByteArray) (k : Nat) : List ByteArray := (List.range k).map fun j => x.extract (64 * j) (64 * j + 64)
theorem parts_len (x : ByteArray) (k : Nat) : (parts x k).length = k := by simp [parts]
theorem parts_succ (x : ByteArray) (k : Nat) : parts x (k + 1) = parts x k ++ [x.extract (64 * k) (64 * k + 64)] := by simp [parts, List.range_succ]
theorem parts_size {x : ByteArray} {k : Nat} (h : 64 * k ≤ x.size) : ∀ b ∈ parts x k, b.size = 64 := by
  intro b hb
  obtain ⟨j, hj, rfl⟩ := List.mem_map.1 hb
  have := List.mem_range.1 hj
  rw [ByteArray.size_extract]
  omega
theorem flat_parts (x : ByteArray) : ∀ k : Nat, flat (parts x k) = x.data.toList.take (64 * k)
  | 0 => by simp [parts, flat]
  | k + 1 => by
    rw [parts_succ, flat_append, flat_parts x k, flat_cons, flat_nil, List.append_nil, Lib.extract_data, show 64 * k + 64 - 64 * k = 64 by omega, show 64 * (k + 1) = 64 * k + 64 by omega, List.take_add]
theorem img_parts {x : ByteArray} {k : Nat} (h : x.size = 64 * k) : img (parts x k) = x := by
  apply ByteArray.ext
  apply Array.toList_inj.1
  rw [img_list, flat_parts, List.take_of_length_le (by rw [len_of]; omega)]
theorem parts_ok {x : ByteArray} {k : Nat} (h : x.size = 64 * k) (h1 : 1 ≤ k) (h2 : k ≤ 16384) : (fresh (parts x k)).Ok :=
  fresh_ok (by rw [parts_len]; exact h1) (by rw [parts_len]; exact h2) (parts_size (by omega))
theorem bytes_row (w : World) {x : ByteArray} {k : Nat} (h : x.size = 64 * k) (h2 : k ≤ 16384) : RowIs w.heap.size (grownCap w x.size 0 5) (flat (parts x k)) (Lib.bytesWorld w 5 x) (Lib.bytesCells w 5 x) := by
  have e : flat (parts x k) = x.data.toList := by rw [flat_parts, List.take_of_length_le (by rw [len_of]; omega)]
  have h3 := grownCap_ge w x.size 0 5
  have hs : (Lib.bytesCells w 5 x).size = grownCap w x.size 0 5 := by
    simp [Lib.bytesCells]
    have : x.data.size = x.size := rfl
    omega
  have hl : (flat (parts x k)).length = x.size := by rw [e, len_of]
  refine ⟨⟨_, Lib.bytesWorld_at_new w 5 x, .inr (by rw [hl, hs]; exact h3)⟩, hs, grownCap_le_maxLen _ _ _ _ (by unfold maxLen; omega), by rw [hl]; exact h3, ?_⟩
  rw [e, len_of]
  have : x.data.size = x.size := rfl
  simp [Lib.bytesCells, Lib.byteCells, this]

set_option maxRecDepth 100000 in
theorem open_bytes {x : ByteArray} {k : Nat} (hx : x.size = 64 * k) (h1 : 1 ≤ k) (h2 : k ≤ 16384) (w : World) :
    Calls Try.prog 20 #[.string x] w fun e w' => ∃ b g m, e = .returned (.tuple #[.pointer (some ⟨b, 0, none⟩), .int .i64 0]) ∧ DiskAt b g m (fresh (parts x k)) w' ∧ (w.heap.size ≤ b ∧ w.heap.size ≤ g ∧ w.heap.size ≤ m) ∧ Below w.heap.size w w' := by
  have hcv := Lib.run_convert_string_bytes (P := Try.prog) w 9 43 5 x Try.underlying9 Try.underlying43 Try.underlying5
  obtain ⟨hB1, hs1⟩ := below_bytesWorld w 5 x
  have hX := disk_new (parts_ok hx h1 h2) (bytes_row w hx h2)
  rw [show (parts x k).length = k from parts_len x k] at hX
  generalize Lib.bytesWorld w 5 x = w1 at hcv hB1 hs1 hX
  generalize grownCap w x.size 0 5 = cap at hcv hX
  have C := fun gg cap w => over_any gg (64 * k) cap w
  have HX := Lib.hid hX
  have HB := Lib.hid hB1
  have HS := Lib.hid hs1
  have e1 : ((x.size : Int) % 64 != 0) = false := by
    have : (x.size : Int) % 64 = 0 := by omega
    rw [this]; rfl
  have e2 : ((x.size : Int)) / 64 = (k : Int) := by omega
  rw [hx] at hcv
  have hk1 : (1 : Int) ≤ (k : Int) := by omega
  have hk2 : (k : Int) ≤ 16384 := by omega
  clear hX hB1 hs1 hx
  go_enter Try.func20, Try.ntmps20
  go_wp2_with fail
  refine (C _ _ _).mono ?_
  rintro e w2 ⟨rfl, rfl⟩
  go_wp2
  go_ret2
  exact ⟨_, _, _, rfl, HX.out, ⟨by have := HS.out; omega, Nat.le_refl _, by have := HS.out; omega⟩, (HB.out.alloc (by have := HS.out; omega) _).alloc (by have := HS.out; simp; omega) _⟩
end Go.Proofs.Ytmbknpipefbelaa
