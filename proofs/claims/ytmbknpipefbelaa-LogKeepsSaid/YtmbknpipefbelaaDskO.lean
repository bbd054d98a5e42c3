/-
  A disk: Open, Clone.
-/
import Derived.Test.YtmbknpipefbelaaDskN
namespace Go.Proofs.Ytmbknpipefbelaa
open Go.RowKit Go Go.Maps SM

section
variable {b g cap m : Nat} {B : ByteArray} {a : Int} {s : DS} {cur : Array Value} {D : DataW Unit} {w w' : World}

theorem below_bytesWorld (w : World) (e : TypeId) (x : ByteArray) : Below w.heap.size w (Lib.bytesWorld w e x) ∧ (Lib.bytesWorld w e x).heap.size = w.heap.size + 1 := by
  have hs : (Lib.bytesWorld w e x).heap.size = w.heap.size + 1 := by simp [Lib.bytesWorld, World.freeze]
  refine ⟨⟨rfl, rfl, rfl, by omega, fun k hk => Lib.bytesWorld_at_old w e x k hk⟩, hs⟩

set_option maxRecDepth 100000 in
/-- of a disk of bytes: how many sectors it has, and that nothing is loose -/
theorem open_yes (x : ByteArray) (k : Nat) (hx : x.size = 64 * k) (h1 : 1 ≤ k) (h2 : k ≤ 16384) (w : World) :
    Calls Try.prog 20 #[.string x] w fun e w' => ∃ b g cap m, e = .returned (.tuple #[.pointer (some ⟨b, 0, none⟩), .int .i64 0]) ∧ w'.heap[b]? = some (DObj g cap m ⟨#[]⟩ 0 (fresh (blank k))) ∧ LooseAt m [] w' (.map []) ∧ Below w.heap.size w w' := by
  have hcv := Lib.run_convert_string_bytes (P := Try.prog) w 9 43 5 x Try.underlying9 Try.underlying43 Try.underlying5
  obtain ⟨hB1, hs1⟩ := below_bytesWorld w 5 x
  generalize Lib.bytesWorld w 5 x = w1 at hcv hB1 hs1
  generalize grownCap w x.size 0 5 = cap at hcv
  have C := fun gg cap w => over_any gg (64 * k) cap w
  have hX : ∀ gg cap, ((w1.alloc (.map #[] 0)).alloc (.cells #[.slice (some ⟨gg, 0, none⟩) (64 * k) cap, .map (some w1.heap.size), .string ⟨#[]⟩, .int .i64 0, .int .i64 0, .string ⟨#[]⟩, .bool false] 68)).heap[w1.heap.size + 1]? = some (DObj gg cap w1.heap.size ⟨#[]⟩ 0 (fresh (blank k))) := by
    intro gg cap
    have := heap_alloc_new (w1.alloc (.map #[] 0)) (.cells #[.slice (some ⟨gg, 0, none⟩) (64 * k) cap, .map (some w1.heap.size), .string ⟨#[]⟩, .int .i64 0, .int .i64 0, .string ⟨#[]⟩, .bool false] 68)
    rw [show (w1.alloc (.map #[] 0)).heap.size = w1.heap.size + 1 by simp] at this
    rw [this]
    simp [DObj, fresh, blank, none0]
  have hL : ∀ o, LooseAt w1.heap.size [] ((w1.alloc (.map #[] 0)).alloc o) (.map []) := fun o => (looseAt_new w1).below ((Below.refl _ _).alloc (Nat.le_refl _) _)
  have HX := Lib.hid hX
  have HL := Lib.hid hL
  have HB := Lib.hid hB1
  have HS := Lib.hid hs1
  have e1 : ((x.size : Int) % 64 != 0) = false := by
    have : (x.size : Int) % 64 = 0 := by omega
    rw [this]; rfl
  have e2 : ((x.size : Int)) / 64 = (k : Int) := by omega
  rw [hx] at hcv
  have hk1 : (1 : Int) ≤ (k : Int) := by omega
  have hk2 : (k : Int) ≤ 16384 := by omega
  clear hX hL hB1 hs1 hx
  go_enter Try.func20, Try.ntmps20
  go_wp2_with fail
  refine (C _ _ _).mono ?_
  rintro e w2 ⟨rfl, rfl⟩
  go_wp2
  go_ret2
  exact ⟨_, _, _, _, rfl, HX.out _ _, HL.out _, (HB.out.alloc (by have := HS.out; omega) _).alloc (by have := HS.out; simp; omega) _⟩

set_option maxRecDepth 100000 in
theorem open_no (x : ByteArray) (hs : x.size ≤ 140737488355328) (h : x.size / 64 < 1 ∨ 16384 < x.size / 64 ∨ x.size % 64 ≠ 0) (w : World) :
    Calls Try.prog 20 #[.string x] w fun e w' => e = .returned (.tuple #[.pointer none, .int .i64 60]) ∧ w = w' := by
  by_cases h1 : x.size / 64 < 1
  · clear h
    go_enter Try.func20, Try.ntmps20
    go_wp2
    go_ret2
    exact ⟨rfl, rfl⟩
  · by_cases h2 : 16384 < x.size / 64
    · clear h
      go_enter Try.func20, Try.ntmps20
      go_wp2
      go_ret2
      exact ⟨rfl, rfl⟩
    · have h3 : ((x.size : Int) % 64 != 0) = true := by
        have : (x.size : Int) % 64 ≠ 0 := by omega
        simpa using this
      clear h
      go_enter Try.func20, Try.ntmps20
      go_wp2
      go_ret2
      exact ⟨rfl, rfl⟩

/-! ### Clone -/
theorem clone_end {c g' cap' m' : Nat} {cur' : Array Value} {w3 : World} (h0 : DAt b g cap m B a s cur D w) (hc : w3.heap[c]? = some (DObj g cap m B a s)) (hr : RowIs g' cap' (flat s.stay) w3 cur') (hl : LooseAt m' s.loose w3 D) (h1 : g' ≠ c) (h2 : m' ≠ c) :
    DAt c g' cap' m' B a s cur' D ((w3.setCell ⟨c, 0, none⟩ (.slice (some ⟨g', 0, none⟩) (64 * s.stay.length) cap')).setCell ⟨c, 1, none⟩ (.map (some m'))) := by
  refine ⟨?_, (hr.set h1 _).set h1 _, (hl.set h2 _).set h2 _, h0.size, h0.bads⟩
  rw [heap_set (heap_set hc _)]
  simp [DObj]
/-- the disk's cells while other blocks are made and turned -/
theorem cells_other {c : Nat} (h : w.heap[b]? = some (DObj g cap m B a s)) (hb : b ≠ c) : (∀ x, (w.setCell ⟨c, 0, none⟩ x).cell? ⟨b, 0, none⟩ = some (.slice (some ⟨g, 0, none⟩) (64 * s.stay.length) cap) ∧ (w.setCell ⟨c, 0, none⟩ x).cell? ⟨b, 1, none⟩ = some (.map (some m))) ∧
    (∀ x y, ((w.setCell ⟨c, 0, none⟩ x).setCell ⟨c, 1, none⟩ y).cell? ⟨b, 0, none⟩ = some (.slice (some ⟨g, 0, none⟩) (64 * s.stay.length) cap) ∧ ((w.setCell ⟨c, 0, none⟩ x).setCell ⟨c, 1, none⟩ y).cell? ⟨b, 1, none⟩ = some (.map (some m))) :=
  ⟨fun x => ⟨DObj.c0 (heap_set_other h hb x), DObj.c1 (heap_set_other h hb x)⟩, fun x y => ⟨DObj.c0 (heap_set_other (heap_set_other h hb x) hb y), DObj.c1 (heap_set_other (heap_set_other h hb x) hb y)⟩⟩
end
end Go.Proofs.Ytmbknpipefbelaa
