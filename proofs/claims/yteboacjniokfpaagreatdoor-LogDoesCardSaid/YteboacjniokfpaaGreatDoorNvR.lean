/-
  What is left behind a call that is taken, or in which the power goes.
-/
import Derived.Test.YteboacjniokfpaaGreatDoorNvQ
import Derived.Test.YteboacjniokfpaaGreatDoorNvOps
import Derived.Deep.AppendLies
import Derived.Deep.RegionHeld3
namespace Go.Proofs.YteboacjniokfpaaGreatDoor
open Go.RowKit Go Go.Maps SM

theorem infoR : (Tryz.prog.info? 9).map (fun i => (i.zero, i.size, i.bytes)) = some (some (.string ⟨#[]⟩), 1, 16) := by kernel_rfl

/-- a law's own list of texts -/
def RowS (w0 W : World) (v : Value) (L : List ByteArray) : Prop := ∃ g c, v = .slice (some ⟨g, 0, none⟩) L.length c ∧ W.ownsRow w0.heap.size 9 1 v L.length (strVals L)
section
variable {w0 w w' : World} {v : Value} {L : List ByteArray}
theorem RowS.keep (h : RowS w0 w v L) (k : LKeep w w') : RowS w0 w' v L := by
  obtain ⟨g, c, e, h⟩ := h
  exact ⟨g, c, e, k.owns h (by decide) (by decide) (by decide)⟩
theorem RowS.later (h : RowS w0 w v L) (hB : Below w.heap.size w w') : RowS w0 w' v L := h.keep (.of_below hB)
theorem RowS.texts (h : RowS w0 w v L) : TextsAt w v L := by
  obtain ⟨_, _, _, h⟩ := h
  exact texts_of_row h
theorem RowS.shape (h : RowS w0 w v L) : ∃ g c cur, v = .slice (some ⟨g, 0, none⟩) L.length c ∧ w.heap[g]? = some (.cells cur 9 (0, 0)) ∧ g < w.heap.size ∧
    ∀ W : World, W.heap[g]? = some (.cells cur 9 (0, 0)) → ∀ j u, (strVals L)[j]? = some u → W.cell? ((⟨g, 0, none⟩ : Addr).add j) = some u := by
  obtain ⟨g, c, e, h⟩ := h
  have hc := h.cells (g := g) (by rw [e]; rfl)
  rcases h.2 with ⟨e2, _⟩ | ⟨g2, c2, cur, e2, _, hg, _⟩
  · rw [e] at e2; cases e2
  · rw [e] at e2
    cases e2
    refine ⟨g, c, cur, e, hg, (Array.getElem?_eq_some_iff.1 hg).1, fun W hW j u hu => ?_⟩
    have := hc j u hu
    rw [Addr.add_lit] at this ⊢
    simp only [World.cell?, hg] at this
    simp only [World.cell?, hW]
    exact this
end
theorem rowS_of {w0 W : World} {base n : Nat} {v : Value} {xs : List Value} {L : List ByteArray} (h : W.ownsRow base 9 1 v n xs) (hb : w0.heap.size ≤ base) (hx : xs = strVals L) (hn : n = L.length) (hnn : v ≠ .slice none 0 0) : RowS w0 W v L := by
  subst hx
  subst hn
  have h2 := h.mono hb
  rcases h.2 with ⟨e2, _⟩ | ⟨g2, c2, cur, e2, _⟩
  · exact absurd e2 hnn
  · subst e2
    exact ⟨g2, c2, rfl, h2⟩
theorem strVals_one (L : List ByteArray) : ∀ u ∈ strVals L, u.oneCell' = true := by
  intro u hu
  obtain ⟨s, _, rfl⟩ := List.mem_map.1 hu
  rfl

/-! ### what is there behind a call -/
theorem length_le_recB : ∀ l : List ByteArray, l.length ≤ (recB l).length := fun l => by
  induction l with
  | nil => simp
  | cons r l ih => rw [recB_cons, List.length_append, List.length_append, length_leN, List.length_cons]; omega
theorem Good.few {x : LS} (h : Good x) : x.recs.length ≤ 600000 := by
  have h1 := h.quiet.ok.le
  have h2 := h.fits
  have h3 := length_le_recB x.recs
  unfold halfN at h2
  omega
/-- there is what there was, and the log goes on; or the power is gone, and there is what there was or what was to be -/
def After (x : LS) (H : List ByteArray) (G : Nat) (N : List ByteArray) (M : Nat) : Prop :=
  (Good x ∧ x.recs = H ∧ x.gen = G) ∨ (Gone x.disk ∧ (Holds x.disk.stay G H ∨ Holds x.disk.stay M N))
section
variable {x : LS}
theorem after_app (h : Good x) (r : ByteArray) :
    (x.appE r = 0 ∧ After (x.app r) (x.recs ++ [r]) x.gen (x.recs ++ [r]) x.gen) ∨
    (x.appE r = 2 ∧ After (x.app r) x.recs x.gen (x.recs ++ [r]) x.gen) ∨
    (((x.appE r == 0) = false ∧ (x.appE r == 2) = false) ∧ After (x.app r) x.recs x.gen x.recs x.gen) := by
  by_cases hf : x.takes r
  · rcases h.app_yes hf with ⟨e, e2, hg⟩ | ⟨e, _, hg, hh⟩
    · exact .inl ⟨e, .inl ⟨hg, by rw [e2], gen_app x r⟩⟩
    · exact .inr (.inl ⟨e, .inr ⟨hg, hh⟩⟩)
  · obtain ⟨e, e0, e2⟩ := h.app_no hf
    exact .inr (.inr ⟨⟨beq_eq_false_iff_ne.2 e0, beq_eq_false_iff_ne.2 e2⟩, by rw [e]; exact .inl ⟨h, rfl, rfl⟩⟩)
theorem after_start (h : Good x) (n : Int) :
    (x.startE n = 0 ∧ (∃ k : Nat, n = k ∧ After (x.start n) [] k [] k)) ∨
    (x.startE n = 2 ∧ (∃ k : Nat, n = k ∧ After (x.start n) x.recs x.gen [] k)) ∨
    (((x.startE n == 0) = false ∧ (x.startE n == 2) = false) ∧ After (x.start n) x.recs x.gen x.recs x.gen) := by
  cases hf : x.form n with
  | false =>
    have hn : n = ((n.toNat : Nat) : Int) := by simp [LS.form] at hf; omega
    rcases h.start_yes hf with ⟨e, e1, e2, hg, _⟩ | ⟨e, hg, hh⟩
    · exact .inl ⟨e, n.toNat, hn, .inl ⟨hg, e1, e2⟩⟩
    · exact .inr (.inl ⟨e, n.toNat, hn, .inr ⟨hg, hh⟩⟩)
  | true =>
    obtain ⟨e, e0⟩ := h.start_no hf
    exact .inr (.inr ⟨by rw [e0]; exact ⟨rfl, rfl⟩, by rw [e]; exact .inl ⟨h, rfl, rfl⟩⟩)
theorem after_crash (h : Good x) (keep : ByteArray) : After (x.crashed keep) x.recs x.gen x.recs x.gen := by
  obtain ⟨h1, h2⟩ := h.quiet.crash_stay keep
  exact .inr ⟨h2, .inl (by show Holds (x.disk.crash keep).stay _ _; rw [h1]; exact h.holds)⟩
theorem after_arm (h : Good x) {n : Int} (hn : n ≤ 9223372036854775807) {keep : ByteArray} (hk : keep.size ≤ 140737488355328) : After (x.armed n keep) x.recs x.gen x.recs x.gen := by
  have ho := h.quiet.ok.setArm hn hk
  have e : (x.disk.setArm n keep).stay = x.disk.stay ∧ (x.disk.setArm n keep).dead = x.disk.dead ∧ (x.disk.setArm n keep).bad = x.disk.bad ∧ (x.disk.setArm n keep).loose = x.disk.loose := by
    unfold DS.setArm
    split
    · exact ⟨rfl, rfl, rfl, rfl⟩
    · split <;> exact ⟨rfl, rfl, rfl, rfl⟩
  refine .inl ⟨⟨⟨ho, e.2.1.trans h.quiet.dead, fun j => by rw [show (x.armed n keep).disk.bad = x.disk.bad from e.2.2.1]; exact h.quiet.bad j, e.2.2.2.trans h.quiet.none_⟩, h.alive, ?_⟩, rfl, rfl⟩
  show Holds (x.disk.setArm n keep).stay _ _
  rw [e.1]
  exact h.holds
theorem made_armed (n : Int) (keep : ByteArray) : (x.armed n keep).disk.made ≤ x.disk.made := by
  show (x.disk.setArm n keep).made ≤ _
  unfold DS.setArm
  split
  · simp
  · split <;> simp
theorem made_crashed (keep : ByteArray) : (x.crashed keep).disk.made ≤ x.disk.made := by
  show (x.disk.crash keep).made ≤ _
  unfold DS.crash
  split <;> simp [DS.goes]
/-- revived, and opened anew -/
theorem after_open (h : Gone x.disk) {g : Nat} {L : List ByteArray} (hh : Holds x.disk.stay g L) :
    openE x.revived.disk = 0 ∧ Good (openX x.revived.disk) ∧ (openX x.revived.disk).recs = L ∧ (openX x.revived.disk).gen = g ∧ (openX x.revived.disk).disk.made ≤ x.disk.made := by
  obtain ⟨h3, h4⟩ := h.revive
  have h5 : Holds x.revived.disk.stay g L := by show Holds x.disk.revive.stay g L; rw [h4]; exact hh
  obtain ⟨e1, e2⟩ := open_holds (s := x.revived.disk) h3 h5
  rw [e2]
  exact ⟨e1, ⟨h3, rfl, h5⟩, rfl, rfl, Nat.le_refl _⟩
end
section
variable {w0 w : World} {l b g m : Nat} {x : LS}
end
end Go.Proofs.YteboacjniokfpaaGreatDoor

