/-
  A disk beside rows of other kinds: what one does the other does not feel.
-/
import Derived.Test.YtmbknpipefbelaaDskV
import Derived.Laws.OwnMore
namespace Go.Proofs.Ytmbknpipefbelaa
open Go.RowKit Go Go.Maps SM

section
variable {b g m base n : Nat} {s : DS} {w w' : World} {e : TypeId} {v : Value} {xs : List Value}
theorem DiskAt.kinds (h : DiskAt b g m s w) : (∃ C f, w.heap[b]? = some (.cells C 68 f)) ∧ (∃ C f, w.heap[g]? = some (.cells C 5 f)) ∧ (∃ es c, w.heap[m]? = some (.map es c)) := by
  obtain ⟨h1, cap, B, cur, D, h2⟩ := h
  exact ⟨⟨_, _, h2.obj⟩, by obtain ⟨f, h3, _⟩ := h2.row.at_; exact ⟨_, f, h3⟩, h2.loose.obj⟩
theorem DiskAt.not_cells (h : DiskAt b g m s w) {k : Nat} {C : Array Value} {f : Nat × Nat} (hk : w.heap[k]? = some (.cells C e f)) (h1 : e ≠ 68) (h2 : e ≠ 5) : ¬ Foot b g m k := by
  obtain ⟨⟨C1, f1, e1⟩, ⟨C2, f2, e2⟩, ⟨es, c, e3⟩⟩ := h.kinds
  rintro (rfl | rfl | rfl)
  · rw [hk] at e1; simp at e1; exact h1 e1.2.1
  · rw [hk] at e2; simp at e2; exact h2 e2.2.1
  · rw [hk] at e3; cases e3
theorem stir_of_grown {row : Option Nat} (h : w.grownBy w' row) : Stir (fun k => row = some k) w w' := ⟨h.os, h.tape, h.output, h.size, fun k hk hn => h.block k hk (fun e => hn e.symm)⟩
theorem owns_block {size : Nat} (h : w.ownsRow base e size v n xs) {k : Nat} (hk : v.ownBlock = some k) : ∃ C, w.heap[k]? = some (.cells C e (0, 0)) := by
  rcases h.2 with ⟨rfl, _⟩ | ⟨g, cap, cur, rfl, _, hg, _⟩
  · cases hk
  · cases hk
    exact ⟨cur, hg⟩
/-- an append to a row of another kind -/
theorem DiskAt.grown {size : Nat} (h : DiskAt b g m s w) (hr : w.ownsRow base e size v n xs) (hg : w.grownBy w' v.ownBlock) (h1 : e ≠ 68) (h2 : e ≠ 5) : DiskAt b g m s w' :=
  h.stay (stir_of_grown hg) (fun i hi e' => by
    obtain ⟨C, hC⟩ := owns_block hr e'
    exact h.not_cells hC h1 h2 hi)
/-- a store into a row of another kind -/
theorem DiskAt.other {k i : Nat} {C : Array Value} {f : Nat × Nat} (h : DiskAt b g m s w) (hk : w.heap[k]? = some (.cells C e f)) (h1 : e ≠ 68) (h2 : e ≠ 5) (x : Value) : DiskAt b g m s (w.setCell ⟨k, i, none⟩ x) :=
  h.stay ((Stir.refl (· = k) w).set (.inl rfl) x) (fun j hj e' => by subst e'; exact h.not_cells hk h1 h2 hj)
theorem owns_stay {size : Nat} {F : Nat → Prop} (h : w.ownsRow base e size v n xs) (hs : Stir F w w') (hn : ∀ k, v.ownBlock = some k → ¬ F k) : w'.ownsRow base e size v n xs := by
  refine ⟨h.1, ?_⟩
  rcases h.2 with h' | ⟨g, cap, cur, rfl, hB, hg, rest⟩
  · exact .inl h'
  · exact .inr ⟨g, cap, cur, rfl, hB, hs.keep hg (hn g rfl), rest⟩
theorem owns_below {size : Nat} (h : w.ownsRow base e size v n xs) (hB : Below w.heap.size w w') : w'.ownsRow base e size v n xs := owns_stay h (Stir.of_below (F := fun _ => False) hB) (fun _ _ h => h)
/-- a row of another kind, while a disk does something -/
theorem owns_disk {size : Nat} (h : w.ownsRow base e size v n xs) (hd : DiskAt b g m s w) (hs : Stir (Foot b g m) w w') (h1 : e ≠ 68) (h2 : e ≠ 5) : w'.ownsRow base e size v n xs :=
  owns_stay h hs (fun k hk hf => by
    obtain ⟨C, hC⟩ := owns_block h hk
    exact hd.not_cells hC h1 h2 hf)
end

/-! ### What sectors tell -/
section
variable {n k : Nat} {s : DS}
theorem look_lays (s : DS) (j : Int) (x : ByteArray) (i : Int) : (s.lays j x).look i = if i = j then x else s.look i := by
  unfold DS.look
  show (match seek i (putL j x s.loose) 0 with | some z => z.2 | none => s.stay.getD i.toNat none0) = _
  rw [seek_putL]
  by_cases h : i = j
  · subst h; simp
  · simp only [h, if_false]; rfl
theorem look_settled (s : DS) {i : Nat} (hi : i < s.stay.length) : s.settled.look i = s.look i := by
  unfold DS.look
  show (laid (fun _ => true) s.loose s.stay).getD (i : Int).toNat none0 = _
  rw [Int.toNat_natCast, List.getD_eq_getElem?_getD, List.getElem?_eq_getElem (by rw [length_laid]; exact hi), Option.getD_some, get_laid _ _ _ _ hi]
  cases seek (i : Int) s.loose 0 with
  | none => simp [hi]
  | some z => simp
theorem Calm.sync_look (h : Calm n k s) {i : Nat} (hi : i < n) : s.sync.look i = s.look i := by
  rw [h.sync_is, look_settled]
  · rfl
  · show i < s.stay.length
    rw [h.len]; exact hi
theorem look_fresh {i : Nat} (hi : i < n) : (fresh (blank n)).look i = zero64 := by
  unfold DS.look
  simp [fresh, seek, blank, hi]
theorem sec_zero : sec 0 0 = zero64 := by simp [sec, zero64, secN_zero]
end
end Go.Proofs.Ytmbknpipefbelaa
