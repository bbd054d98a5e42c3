/-
  What is asked, in a law's own variable; a Pick beside the reference's; rows that are zeroed.
-/
import Derived.Test.YtknfakaklmpboaaAlcF
import Derived.Test.YtknfakaklmpboaaAlcO
namespace Go.Proofs.Ytknfakaklmpboaa
open Go.ChangeShapes Go.WideShapes Go.ChangeAt Go.RowKit Go.Shelf Go SM PL AL

def AskAt (q : Nat) (u : ByteArray) (b f m : Int) (w : World) : Prop := w.heap[q]? = some (.cells #[.string u, .int .i64 b, .int .i64 f, .int .i64 m] 23 (0, 0))
section
variable {q : Nat} {u : ByteArray} {b f m : Int} {w w' : World}
theorem AskAt.cells (h : AskAt q u b f m w) : w.cell? ⟨q, 0, none⟩ = some (.string u) ∧ w.cell? ⟨q, 1, none⟩ = some (.int .i64 b) ∧ w.cell? ⟨q, 2, none⟩ = some (.int .i64 f) ∧ w.cell? ⟨q, 3, none⟩ = some (.int .i64 m) := by
  have h : w.heap[q]? = _ := h
  refine ⟨?_, ?_, ?_, ?_⟩ <;> simp [World.cell?, h]
theorem AskAt.later (h : AskAt q u b f m w) (hB : Below w.heap.size w w') : AskAt q u b f m w' := keeps_of hB h
theorem AskAt.new (w : World) (u : ByteArray) (b f m : Int) : AskAt w.heap.size u b f m (w.alloc (.cells #[.string u, .int .i64 b, .int .i64 f, .int .i64 m] 23)) := heap_alloc_new _ _
theorem AskAt.stay {G : Nat → Prop} (h : AskAt q u b f m w) (s : Stir G w w') (hn : ¬ G q) : AskAt q u b f m w' := s.keep h hn
theorem irow_blk {base n : Nat} {v : Value} {xs : List Value} (h : w.ownsRow base 3 1 v n xs) (hn : 0 < n) : ∃ g cap C, v = .slice (some ⟨g, 0, none⟩) n cap ∧ base ≤ g ∧ n ≤ cap ∧ w.heap[g]? = some (.cells C 3 (0, 0)) ∧ n ≤ C.size := by
  rcases h.2 with ⟨_, h0⟩ | ⟨g, cap, cur, h1, h2, h3, h4, h5, h6, h7⟩
  · omega
  · exact ⟨g, cap, cur, h1, h2, h4, h3, by omega⟩
theorem iblk_set {g i n : Nat} {v : Value} (h : ∃ C, w.heap[g]? = some (.cells C 3 (0, 0)) ∧ n ≤ C.size) : ∃ C, (w.setCell ⟨g, i, none⟩ v).heap[g]? = some (.cells C 3 (0, 0)) ∧ n ≤ C.size := by
  obtain ⟨C, h1, h2⟩ := h
  exact ⟨_, heap_set h1 v, by simpa using h2⟩
/-- whatever is asked: what the reference picks, and what is picked -/
def Both (u : ByteArray) (b f m : Int) (l : List Nat) (P E : Int) : Prop := l.length ≤ 4096 ∧
  (∀ w, Calls Try.prog 6 #[.string u, .int .i64 b, .int .i64 f, .int .i64 m] w fun e w' => ∃ a cap, e = .returned (.tuple #[.slice a l.length cap, .int .i64 P, .int .i64 E]) ∧ IntsAt w' (.slice a l.length cap) (intsN l) ∧ Below w.heap.size w w') ∧
  (∀ w, Calls Try.prog 7 #[.string u, .int .i64 b, .int .i64 f, .int .i64 m] w fun e w' => ∃ a cap, e = .returned (.tuple #[.slice a l.length cap, .int .i64 P, .int .i64 E]) ∧ w'.ownsRow w.heap.size 3 1 (.slice a l.length cap) l.length (ints l) ∧ Below w.heap.size w w')
theorem both (u : ByteArray) (b f m : Int) (hu : u.size ≤ 140737488355328) : ∃ l P E, Both u b f m l P E := by
  by_cases h : badA b f = true ∨ m < 0
  · refine ⟨[], 0, 100, by simp, fun w => (rpick_bad u b f m h w).mono fun _ _ hh => ⟨none, 0, hh.1, .inl ⟨rfl, rfl⟩, by rw [← hh.2]; exact Below.refl _ _⟩, fun w => ?_⟩
    have C : Calls Try.prog 7 #[.string u, .int .i64 b, .int .i64 f, .int .i64 m] w fun e w' => e = .returned (.tuple #[.slice none 0 0, .int .i64 0, .int .i64 100]) ∧ w = w' := by
      rcases h with h | h
      · exact apick_bad u b f m h w
      · exact apick_neg u b f m h w
    exact C.mono fun _ _ hh => ⟨none, 0, hh.1, World.ownsRow_nil _ _ _ _, by rw [← hh.2]; exact Below.refl _ _⟩
  · have h1 : badA b f = false := by
      cases hb : badA b f with
      | false => rfl
      | true => exact absurd (.inl hb) h
    obtain ⟨n, g, rfl, rfl, k1, k2, k3, k4⟩ := badA_no h1
    have hl := length_frees u.data.toList n
    rw [← length_ord _ _ g] at hl
    by_cases hm : ((ord u.data.toList n g).length : Int) < m
    · exact ⟨[], 0, 101, by simp, fun w => (rpick_full u n g hu k1 k2 k3 k4 m hm w).mono fun _ _ hh => ⟨none, 0, hh.1, .inl ⟨rfl, rfl⟩, hh.2⟩,
        fun w => (apick_full u n g hu k1 k2 k3 k4 m hm w).mono fun _ _ hh => ⟨none, 0, hh.1, World.ownsRow_nil _ _ _ _, hh.2⟩⟩
    · obtain ⟨k, rfl⟩ : ∃ k : Nat, m = (k : Int) := ⟨m.toNat, by omega⟩
      have hk : k ≤ (ord u.data.toList n g).length := by omega
      have hlk : ((ord u.data.toList n g).take k).length = k := by rw [List.length_take]; omega
      refine ⟨(ord u.data.toList n g).take k, (placeAt (ord u.data.toList n g) g k : Nat), 0, by omega, fun w => ?_, fun w => ?_⟩
      · rw [hlk]
        exact (rpick_yes u n g hu k1 k2 k3 k4 k hk w).mono fun _ _ hh => hh
      · rw [hlk]
        exact (apick_yes u n g hu k1 k2 k3 k4 k hk w).mono fun _ _ hh => hh
end
end Go.Proofs.Ytknfakaklmpboaa

