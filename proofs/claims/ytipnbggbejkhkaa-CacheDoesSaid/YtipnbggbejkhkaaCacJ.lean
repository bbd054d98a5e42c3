/-
  The reference: Get.
-/
import Derived.Test.YtipnbggbejkhkaaCacI
import Derived.Deep.RegionLaw
namespace Go.Proofs.Ytipnbggbejkhkaa
open Go.RowKit Go

/-- what a Get answers -/
def getV (L : List (Int × ByteArray)) (k : Int) : Value := match getL L k with | some s => .tuple #[.string s, .bool true] | none => .tuple #[.string ⟨#[]⟩, .bool false]
theorem take_drop_cells {L : List (Int × ByteArray)} {i : Nat} (hi : i < L.length) : thingCells ((L[i].1, L[i].2) :: L.eraseIdx i) = [.int .i64 L[i].1, .string L[i].2] ++ thingCells (L.eraseIdx i) := rfl

theorem row_low {w : World} {base base' : Nat} {e : TypeId} {size : Nat} {v : Value} {n : Nat} {xs : List Value} (h : w.ownsRow base e size v n xs) (hb : base' ≤ base) : w.ownsRow base' e size v n xs := by
  refine ⟨h.1, ?_⟩
  rcases h.2 with h1 | ⟨g, cap, cur, h1, h2, h3⟩
  · exact Or.inl h1
  · exact Or.inr ⟨g, cap, cur, h1, Nat.le_trans hb h2, h3⟩
section
variable {w w' : World} {B m room : Nat} {G : Nat → Prop} {v : Value} {L : List (Int × ByteArray)}

set_option maxRecDepth 100000 in
set_option maxHeartbeats 4000000 in
theorem rget_any (h : RefAt B G m room v L w) (hL : L.length ≤ 65536) (hn : (keysL L).Nodup) (k : Int) :
    Calls Try.prog 13 #[.pointer (some ⟨m, 0, none⟩), .int .i64 k] w fun e w' => e = .returned (getV L k) ∧ RefLeft B G m room (useL L k) w w' := by
  have hat := at_any h (by omega) k
  have H := Lib.hid h
  unfold getV useL
  cases ha : atL L k with
  | none =>
    unfold atV at hat
    rw [ha] at hat
    obtain ⟨d1, d2⟩ := drop_at_none ha
    rw [d2]
    clear h ha d1 d2
    go_enter Try.func13, Try.ntmps13
    go_wp2_with fail
    refine hat.mono ?_
    rintro e w1 ⟨rfl, rfl⟩
    go_wp2_with fail
    go_ret2
    exact ⟨rfl, H.out.same (Below.refl _ _)⟩
  | some i =>
    unfold atV at hat
    rw [ha] at hat
    obtain ⟨hi, hk⟩ := at_some ha
    rw [get_at_some ha, drop_at_some hn ha]
    obtain ⟨i0, hi0, hz0, hz1, hz2⟩ := info_parts info64
    obtain ⟨g, cap, hv, hnc, hcm, hg, -, h4, h5⟩ := h.thing hi
    subst hv
    have hrow := take_drop_cells hi
    have hel : (L.eraseIdx i).length + 1 = L.length := by rw [List.length_eraseIdx_of_lt hi]; omega
    obtain ⟨s, hs⟩ : ∃ s, L[i].2 = s := ⟨_, rfl⟩
    rw [hk] at h4 hrow
    rw [hs] at h5 hrow ⊢
    have hki : (i : Int) < (L.length : Int) := by omega
    have hi0' : (0 : Int) ≤ (i : Int) := Int.natCast_nonneg _
    have c1 := RefObj.c1 h.obj
    have HI := Lib.hid hi
    have HE := Lib.hid hel
    have HRow := Lib.hid hrow
    clear hk hs hrow hel ha hn h hi
    go_enter Try.func13, Try.ntmps13
    go_wp2_with fail
    refine hat.mono ?_
    rintro e w1 ⟨rfl, rfl⟩
    go_wp2_with fail
    have HA1 := Lib.hid (H.out.later (w' := (w.alloc (.cells #[.int .i64 k, .string s] 64)).drew) (((Below.refl _ w).alloc (Nat.le_refl _) _).drew))
    have HA2 := Lib.hid (H.out.later (w' := ((w.alloc (.cells #[.int .i64 k, .string s] 64)).alloc (.cells #[.int .i64 k, .string s] 64)).drew) ((((Below.refl _ w).alloc (Nat.le_refl _) _).alloc (by simp) _).drew))
    have OA := Lib.hid (show (((w.alloc (.cells #[.int .i64 k, .string s] 64)).alloc (.cells #[.int .i64 k, .string s] 64)).drew).ownsRow (w.heap.size + 1) 64 2 (.slice (some ⟨w.heap.size + 1, 0, none⟩) 1 1) 1 [.int .i64 k, .string s] from by
      have := World.ownsRow_lit (base := w.heap.size + 1) (e := 64) (size := 2) (w.alloc (.cells #[.int .i64 k, .string s] 64)) #[.int .i64 k, .string s] 1 (by simp) (by decide) rfl
      have e : (w.alloc (.cells #[.int .i64 k, .string s] 64)).heap.size = w.heap.size + 1 := by simp
      rw [e] at this
      exact this)
    have OQ := Lib.hid (show (w.alloc (.cells #[.int .i64 k, .string s] 64)).drew.heap[w.heap.size]? = some (.cells #[.int .i64 k, .string s] 64) from heap_alloc_new w _)
    have hBA1 : Below w.heap.size w (w.alloc (.cells #[.int .i64 k, .string s] 64)).drew := ((Below.refl _ w).alloc (Nat.le_refl _) _).drew
    have hBA2 : Below w.heap.size w ((w.alloc (.cells #[.int .i64 k, .string s] 64)).alloc (.cells #[.int .i64 k, .string s] 64)).drew := (((Below.refl _ w).alloc (Nat.le_refl _) _).alloc (by simp) _).drew
    have HBA1 := Lib.hid hBA1
    have HBA2 := Lib.hid hBA2
    have HBX1 := Lib.hid (show Below (w.heap.size + 1) (w.alloc (.cells #[.int .i64 k, .string s] 64)) (w.alloc (.cells #[.int .i64 k, .string s] 64)).drew from (Below.refl _ _).drew)
    have HBX2 := Lib.hid (show Below (w.heap.size + 1) (w.alloc (.cells #[.int .i64 k, .string s] 64)) ((w.alloc (.cells #[.int .i64 k, .string s] 64)).alloc (.cells #[.int .i64 k, .string s] 64)).drew from ((Below.refl _ _).alloc (by simp) _).drew)
    have OX := Lib.hid (show (w.alloc (.cells #[.int .i64 k, .string s] 64)).heap[w.heap.size]? = some (.cells #[.int .i64 k, .string s] 64) from heap_alloc_new w _)
    have hmn : w.heap.size ≠ m := by have := lt_of_heap H.out.obj; omega
    have hone := thingCells_one (L.eraseIdx i)
    have hlen := thingCells_len (L.eraseIdx i)
    have hel2 : (L.eraseIdx i).length ≤ 65536 := by have := HE.out; omega
    clear hat hnc hcm hg h4 h5 c1 hBA1 hBA2
    go_region_law (first
      | (go_simp; go_at_call 29; refine (without_any HA2.out (by omega) HI.out).mono ?_; rintro e w1 ⟨g1, cap1, rfl, hrow1, hB1⟩; have hownA := ownsRow_of_block OA.out (fun j e => hB1.block j (OA.out.lt j e).2); have hBw := Lib.hid (HBA2.out.trans (hB1.mono (by simp; omega))); have hBx := Lib.hid (HBX2.out.trans (hB1.mono (by simp))))
      | (go_simp; go_at_call 29; refine (without_any HA1.out (by omega) HI.out).mono ?_; rintro e w1 ⟨g1, cap1, rfl, hrow1, hB1⟩; have hq := keeps_of hB1 OQ.out; have q0 : w1.cell? ⟨w.heap.size, 0, none⟩ = some (.int .i64 k) := (by simp [World.cell?, hq]); have q1 : w1.cell? ⟨w.heap.size, 1, none⟩ = some (.string s) := (by simp [World.cell?, hq]); clear hq; have hBw := Lib.hid (HBA1.out.trans (hB1.mono (by simp))); have hBx := Lib.hid (HBX1.out.trans (hB1.mono (by simp))); have hownB := World.ownsRow_lit (base := w.heap.size + 1) (e := 64) (size := 2) w1 #[.int .i64 k, .string s] 1 (Nat.le_trans (by simp) hBx.out.size) (by decide) rfl)
      | (refine step_append_own _ (by rfl) (.tmp 22) (.tmp 25) _ (by rfl) (w.heap.size + 1) 64 i0 _ 2 24 Try.underlying32 hi0 hz0 hz1 hz2 rfl (by omega) _ 1 _ (by rfl) hownA ⟨g1, 0, none⟩ (L.eraseIdx i).length cap1 (thingCells (L.eraseIdx i)) (by rfl) hlen (hrow1.cells rfl) hone (by unfold maxLen; omega) (by omega) (Nat.le_trans (by simp) hBx.out.size) ?_; intro v3 w3 hown3 hgrow3 _ _; have hB3 : Below w.heap.size w w3 := (hBw.out).grown hgrow3 (hBw.out.size) (fun j e => by (have := (hownA.lt j e).1; omega)); have hX3 : Below (w.heap.size + 1) (w.alloc (.cells #[.int .i64 k, .string s] 64)) w3 := (hBx.out).grown hgrow3 (Nat.le_trans (by simp) hBx.out.size) (fun j e => (hownA.lt j e).1); obtain ⟨a3, cap3, rfl⟩ := row_shape hown3; have ho := keeps_of hB3 H.out.obj; have c1 := RefObj.c1 ho; have f1 := RefObj.fr ho 1; have q1 : w3.cell? ⟨w.heap.size, 1, none⟩ = some (.string s) := (by simp [World.cell?, (hX3.block _ (by simp)).trans OX.out]); have HO3 := Lib.hid (row_low hown3 (Nat.le_succ _)); have HB3 := Lib.hid hB3; clear hown3 hgrow3 hB3 ho hX3)
      | (refine step_append_own _ (by rfl) (.tmp 22) (.tmp 25) _ (by rfl) (w.heap.size + 1) 64 i0 _ 2 24 Try.underlying32 hi0 hz0 hz1 hz2 rfl (by omega) _ 1 _ (by rfl) hownB ⟨g1, 0, none⟩ (L.eraseIdx i).length cap1 (thingCells (L.eraseIdx i)) (by rfl) hlen ((hrow1.alloc _).cells rfl) hone (by unfold maxLen; omega) (by omega) (Nat.le_trans (Nat.le_trans (by simp) hBx.out.size) (by simp)) ?_; intro v3 w3 hown3 hgrow3 _ _; have hB3 : Below w.heap.size w w3 := (hBw.out.alloc hBw.out.size _).grown hgrow3 (Nat.le_trans hBw.out.size (by simp)) (fun j e => by (have := (hownB.lt j e).1; omega)); have hX3 : Below (w.heap.size + 1) (w.alloc (.cells #[.int .i64 k, .string s] 64)) w3 := (hBx.out.alloc (Nat.le_trans (by simp) hBx.out.size) _).grown hgrow3 (Nat.le_trans (Nat.le_trans (by simp) hBx.out.size) (by simp)) (fun j e => (hownB.lt j e).1); obtain ⟨a3, cap3, rfl⟩ := row_shape hown3; have ho := keeps_of hB3 H.out.obj; have c1 := RefObj.c1 ho; have f1 := RefObj.fr ho 1; have q1 : w3.cell? ⟨w.heap.size, 1, none⟩ = some (.string s) := (by simp [World.cell?, (hX3.block _ (by simp)).trans OX.out]); have HO3 := Lib.hid (row_low hown3 (Nat.le_succ _)); have HB3 := Lib.hid hB3; clear hown3 hgrow3 hB3 ho hX3))
    all_goals (
      go_wp2_with fail
      go_ret2
      refine ⟨rfl, H.out.stored HB3.out (L' := (k, s) :: L.eraseIdx i) (v' := .slice a3 (1 + (L.eraseIdx i).length) cap3) ?_⟩
      have := HO3.out
      rw [← HRow.out] at this
      rw [List.length_cons, Nat.add_comm (L.eraseIdx i).length 1]
      exact this)
end
end Go.Proofs.Ytipnbggbejkhkaa
