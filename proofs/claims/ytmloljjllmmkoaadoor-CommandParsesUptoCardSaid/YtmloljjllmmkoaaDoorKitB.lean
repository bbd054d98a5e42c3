/-
  A row of bytes of the call's own, as a text (as in WirL).
-/
import Derived.Test.YtmloljjllmmkoaaDoorKitL
import Derived.Test.YtmloljjllmmkoaaDoorWirMath
import Derived.IntWalk
import Derived.Laws.MakeOwn
import Derived.Laws.OwnMore
import Derived.OwnWalk
import Derived.Maps.AppendAt
import Derived.Lib.Strings
import Derived.RangeFuncBox
import Derived.Laws.BytesArg
namespace Go.Proofs.YtmloljjllmmkoaaDoor
open Go.RowKit Go

theorem info5 : (Tryd.prog.info? 5).map (fun i => (i.zero, i.size, i.bytes)) = some (some (.int .u8 0), 1, 1) := by kernel_rfl
def u8s (l : List UInt8) : List Value := l.map fun b => Value.int .u8 b.toNat
theorem u8s_len (l : List UInt8) : (u8s l).length = l.length := by simp [u8s]
theorem u8s_app (l m : List UInt8) : u8s (l ++ m) = u8s l ++ u8s m := by simp [u8s]
/-- bytes of a row of the call's own, as a text -/
theorem row_cells {W : World} {base : Nat} {e : TypeId} {v : Value} {n : Nat} {xs : List Value} (h : W.ownsRow base e 1 v n xs) (hv : v ≠ .slice none 0 0) :
    ∃ g cap, v = .slice (some ⟨g, 0, none⟩) n cap ∧ base ≤ g ∧ g < W.heap.size ∧ n ≤ cap ∧ cap ≤ maxLen ∧ ∀ (i : Nat) u, xs[i]? = some u → W.cell? ⟨g, i, none⟩ = some u := by
  rcases h.2 with ⟨e, _⟩ | ⟨g, cap, cur, h1, h2, h3, h4, h5, h6, h7⟩
  · exact absurd e hv
  · refine ⟨g, cap, h1, h2, (Array.getElem?_eq_some_iff.1 h3).1, h4, h5, fun i u hu => ?_⟩
    have hi : i < n := by
      have := (List.getElem?_eq_some_iff.1 hu).1
      have := h.1
      omega
    rw [← h7, List.getElem?_take_of_lt (by omega)] at hu
    simp only [World.cell?, h3]
    simpa using hu
theorem conv_own (W : World) (base : Nat) (v : Value) (l : List UInt8) (h : W.ownsRow base 5 1 v l.length (u8s l)) :
    (convert 51 9 v).run Tryd.prog W = .ok (.string (bs l)) W := by
  by_cases hv : v = .slice none 0 0
  · have hl : l.length = 0 := by
      rcases h.2 with ⟨_, e⟩ | ⟨g, cap, cur, h1, _⟩
      · exact e
      · rw [hv] at h1; cases h1
    obtain rfl : l = [] := List.eq_nil_of_length_eq_zero hl
    subst hv
    exact run_convert_bytes_nil W 51 5 Tryd.underlying51 Tryd.underlying5 0 0 9 Tryd.underlying9
  · obtain ⟨g, cap, rfl, _, _, _, _, hc⟩ := row_cells h hv
    exact run_convert_bytes_back W 51 9 5 ⟨g, 0, none⟩ cap l Tryd.underlying51 Tryd.underlying5 Tryd.underlying9 (fun j hj => by
      rw [Addr.add_lit, Nat.zero_add, hc j (.int .u8 (l[j].toNat : Nat)) (by simp [u8s, hj])])
end Go.Proofs.YtmloljjllmmkoaaDoor

