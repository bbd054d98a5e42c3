/-
  The law's notes as an object; counts, holds.
-/
import Derived.Test.YthnpdiopaeommaaGreatBlkK
import Derived.OwnWalk
import Derived.Deep.CutRange
namespace Go.Proofs.YthnpdiopaeommaaGreat
open Go.ChangeShapes Go.WideShapes Go.ChangeAt Go.RowKit Go Go.Maps SM

def upd {α : Type} (f : Nat → α) (j : Nat) (v : α) : Nat → α := fun i => if i = j then v else f i
def strsO (f : Nat → ByteArray) : Obj := .cells ((List.range 8).map (fun i => Value.string (f i))).toArray 9 (0, 0)
def boolsO (f : Nat → Bool) : Obj := .cells ((List.range 8).map (fun i => Value.bool (f i))).toArray 4 (0, 0)
def notesO (r : ByteArray) (hp np sp lp : Nat) : Obj := .cells #[.string r, .slice (some ⟨hp, 0, none⟩) 8 8, .slice (some ⟨np, 0, none⟩) 8 8, .slice (some ⟨sp, 0, none⟩) 8 8, .slice (some ⟨lp, 0, none⟩) 8 8] 41 (0, 0)
section
variable {w : World} {p i : Nat} {f : Nat → ByteArray} {g : Nat → Bool}
theorem strsO.cell (h : w.heap[p]? = some (strsO f)) (hi : i < 8) : w.cell? ⟨p, i, none⟩ = some (.string (f i)) := by simp [World.cell?, h, strsO, hi]
theorem strsO.fr (h : w.heap[p]? = some (strsO f)) (i : Nat) : w.frozen? ⟨p, i, none⟩ = false := by simp [World.frozen?, h, strsO]
theorem boolsO.cell (h : w.heap[p]? = some (boolsO g)) (hi : i < 8) : w.cell? ⟨p, i, none⟩ = some (.bool (g i)) := by simp [World.cell?, h, boolsO, hi]
theorem boolsO.fr (h : w.heap[p]? = some (boolsO g)) (i : Nat) : w.frozen? ⟨p, i, none⟩ = false := by simp [World.frozen?, h, boolsO]
theorem set_map {α : Type} (k : α → Value) (f : Nat → α) (i : Nat) (v : α) : ((List.range 8).map (fun j => k (f j))).set i (k v) = (List.range 8).map (fun j => k (upd f i v j)) := by
  apply List.ext_getElem
  · simp
  · intro j h1 h2
    simp only [List.getElem_set, List.getElem_map, List.getElem_range, upd]
    by_cases e : i = j
    · subst e; simp
    · rw [if_neg e, if_neg (fun h => e h.symm)]
theorem strsO.set (h : w.heap[p]? = some (strsO f)) (s : ByteArray) : (w.setCell ⟨p, i, none⟩ (.string s)).heap[p]? = some (strsO (upd f i s)) := by
  rw [heap_set h]
  simp only [List.setIfInBounds_toArray, set_map Value.string]
  rfl
theorem boolsO.set (h : w.heap[p]? = some (boolsO g)) (s : Bool) : (w.setCell ⟨p, i, none⟩ (.bool s)).heap[p]? = some (boolsO (upd g i s)) := by
  rw [heap_set h]
  simp only [List.setIfInBounds_toArray, set_map Value.bool]
  rfl
end
structure NotesAt (base q hp np sp lp : Nat) (n : NT) (w : World) : Prop where
  obj : w.heap[q]? = some (notesO n.root hp np sp lp)
  has : w.heap[hp]? = some (strsO n.has)
  now : w.heap[np]? = some (strsO n.now)
  sure : w.heap[sp]? = some (boolsO n.sure)
  loose : w.heap[lp]? = some (boolsO n.loose)
  low : base ≤ q ∧ base ≤ hp ∧ base ≤ np ∧ base ≤ sp ∧ base ≤ lp
  two : hp ≠ np ∧ sp ≠ lp
def NFoot (q hp np sp lp : Nat) (i : Nat) : Prop := i = q ∨ i = hp ∨ i = np ∨ i = sp ∨ i = lp
section
variable {base q hp np sp lp : Nat} {n : NT} {w w' : World}
theorem NotesAt.keep (h : NotesAt base q hp np sp lp n w) (k : VKeep w w') : NotesAt base q hp np sp lp n w' :=
  ⟨k.keep h.obj (by decide) (by decide) (by decide) (by decide) (by decide), k.keep h.has (by decide) (by decide) (by decide) (by decide) (by decide), k.keep h.now (by decide) (by decide) (by decide) (by decide) (by decide),
   k.keep h.sure (by decide) (by decide) (by decide) (by decide) (by decide), k.keep h.loose (by decide) (by decide) (by decide) (by decide) (by decide), h.low, h.two⟩
theorem NotesAt.later (h : NotesAt base q hp np sp lp n w) (hB : Below w.heap.size w w') : NotesAt base q hp np sp lp n w' := h.keep (VKeep.of_below hB)
theorem NotesAt.foot (h : NotesAt base q hp np sp lp n w) {i : Nat} (hi : NFoot q hp np sp lp i) : base ≤ i ∧ ∃ C e f, w.heap[i]? = some (.cells C e f) ∧ (e = 41 ∨ e = 9 ∨ e = 4) := by
  rcases hi with rfl | rfl | rfl | rfl | rfl
  · exact ⟨h.low.1, _, _, _, h.obj, .inl rfl⟩
  · exact ⟨h.low.2.1, _, _, _, h.has, .inr (.inl rfl)⟩
  · exact ⟨h.low.2.2.1, _, _, _, h.now, .inr (.inl rfl)⟩
  · exact ⟨h.low.2.2.2.1, _, _, _, h.sure, .inr (.inr rfl)⟩
  · exact ⟨h.low.2.2.2.2, _, _, _, h.loose, .inr (.inr rfl)⟩
/-- what the notes' blocks are, the volume stays -/
theorem vw_notes {w0 : World} {l b g m c : Nat} {x : VS} (h : VW w0 l b g m c x w) (hn : NotesAt w0.heap.size q hp np sp lp n w) (hs : Stir (NFoot q hp np sp lp) w w') : VW w0 l b g m c x w' := by
  obtain ⟨F, hv⟩ := h.is
  refine ⟨⟨F, hv.stay hs (fun i hi e' => ?_)⟩, h.low, h.over, h.below.trans (hs.below (fun k hk => (hn.foot hk).1) h.below.size)⟩
  obtain ⟨_, C, e, f, hp, he⟩ := hn.foot e'
  rcases vfoot_kinds hv hi hp with k | k | k | k | k <;> rcases he with j | j | j <;> rw [k] at j <;> exact absurd j (by decide)
theorem kinds_ne {a c : Nat} {A B : Array Value} {e f : TypeId} {u v : Nat × Nat} (h1 : w.heap[a]? = some (.cells A e u)) (h2 : w.heap[c]? = some (.cells B f v)) (h : e ≠ f) : a ≠ c := fun k => by
  subst k
  rw [h1] at h2
  injection h2 with h2
  injection h2 with _ h2 _
  exact h h2
theorem notesO.cells (h : w.heap[q]? = some (notesO n.root hp np sp lp)) : w.cell? ⟨q, 0, none⟩ = some (.string n.root) ∧ w.cell? ⟨q, 1, none⟩ = some (.slice (some ⟨hp, 0, none⟩) 8 8) ∧ w.cell? ⟨q, 2, none⟩ = some (.slice (some ⟨np, 0, none⟩) 8 8) ∧
    w.cell? ⟨q, 3, none⟩ = some (.slice (some ⟨sp, 0, none⟩) 8 8) ∧ w.cell? ⟨q, 4, none⟩ = some (.slice (some ⟨lp, 0, none⟩) 8 8) ∧ w.frozen? ⟨q, 0, none⟩ = false := by simp [World.cell?, World.frozen?, h, notesO]
theorem NotesAt.setRoot (h : NotesAt base q hp np sp lp n w) (r : ByteArray) : NotesAt base q hp np sp lp { n with root := r } (w.setCell ⟨q, 0, none⟩ (.string r)) ∧ Stir (NFoot q hp np sp lp) w (w.setCell ⟨q, 0, none⟩ (.string r)) := by
  refine ⟨⟨?_, heap_set_other h.has (kinds_ne h.has h.obj (by decide)) _, heap_set_other h.now (kinds_ne h.now h.obj (by decide)) _, heap_set_other h.sure (kinds_ne h.sure h.obj (by decide)) _, heap_set_other h.loose (kinds_ne h.loose h.obj (by decide)) _, h.low, h.two⟩, (Stir.refl _ w).set (.inl (.inl rfl)) _⟩
  rw [heap_set h.obj]
  rfl
theorem NotesAt.setHas (h : NotesAt base q hp np sp lp n w) (i : Nat) (v : ByteArray) : NotesAt base q hp np sp lp { n with has := upd n.has i v } (w.setCell ⟨hp, i, none⟩ (.string v)) ∧ Stir (NFoot q hp np sp lp) w (w.setCell ⟨hp, i, none⟩ (.string v)) :=
  ⟨⟨heap_set_other h.obj (kinds_ne h.obj h.has (by decide)) _, strsO.set h.has v, heap_set_other h.now (fun e => h.two.1 e.symm) _, heap_set_other h.sure (kinds_ne h.sure h.has (by decide)) _, heap_set_other h.loose (kinds_ne h.loose h.has (by decide)) _, h.low, h.two⟩, (Stir.refl _ w).set (.inl (.inr (.inl rfl))) _⟩
theorem NotesAt.setNow (h : NotesAt base q hp np sp lp n w) (i : Nat) (v : ByteArray) : NotesAt base q hp np sp lp { n with now := upd n.now i v } (w.setCell ⟨np, i, none⟩ (.string v)) ∧ Stir (NFoot q hp np sp lp) w (w.setCell ⟨np, i, none⟩ (.string v)) :=
  ⟨⟨heap_set_other h.obj (kinds_ne h.obj h.now (by decide)) _, heap_set_other h.has h.two.1 _, strsO.set h.now v, heap_set_other h.sure (kinds_ne h.sure h.now (by decide)) _, heap_set_other h.loose (kinds_ne h.loose h.now (by decide)) _, h.low, h.two⟩, (Stir.refl _ w).set (.inl (.inr (.inr (.inl rfl)))) _⟩
theorem NotesAt.setSure (h : NotesAt base q hp np sp lp n w) (i : Nat) (v : Bool) : NotesAt base q hp np sp lp { n with sure := upd n.sure i v } (w.setCell ⟨sp, i, none⟩ (.bool v)) ∧ Stir (NFoot q hp np sp lp) w (w.setCell ⟨sp, i, none⟩ (.bool v)) :=
  ⟨⟨heap_set_other h.obj (kinds_ne h.obj h.sure (by decide)) _, heap_set_other h.has (kinds_ne h.has h.sure (by decide)) _, heap_set_other h.now (kinds_ne h.now h.sure (by decide)) _, boolsO.set h.sure v, heap_set_other h.loose (fun e => h.two.2 e.symm) _, h.low, h.two⟩, (Stir.refl _ w).set (.inl (.inr (.inr (.inr (.inl rfl))))) _⟩
theorem NotesAt.setLoose (h : NotesAt base q hp np sp lp n w) (i : Nat) (v : Bool) : NotesAt base q hp np sp lp { n with loose := upd n.loose i v } (w.setCell ⟨lp, i, none⟩ (.bool v)) ∧ Stir (NFoot q hp np sp lp) w (w.setCell ⟨lp, i, none⟩ (.bool v)) :=
  ⟨⟨heap_set_other h.obj (kinds_ne h.obj h.loose (by decide)) _, heap_set_other h.has (kinds_ne h.has h.loose (by decide)) _, heap_set_other h.now (kinds_ne h.now h.loose (by decide)) _, heap_set_other h.sure h.two.2 _, boolsO.set h.loose v, h.low, h.two⟩, (Stir.refl _ w).set (.inl (.inr (.inr (.inr (.inr rfl))))) _⟩
end
theorem NotesAt.drew {base q hp np sp lp : Nat} {n : NT} {w : World} (h : NotesAt base q hp np sp lp n w) : NotesAt base q hp np sp lp n w.drew := ⟨h.obj, h.has, h.now, h.sure, h.loose, h.low, h.two⟩
section
variable {n : NT} {r : ByteArray} {j : Nat}
theorem cts_one : n.cts r 1 = { n with root := r } := by
  have h : ∀ k : Nat, ¬ (1 ≤ k ∧ k < 1) := fun k => by omega
  have h' : ∀ k : Nat, ∀ p : Prop, ¬ (1 ≤ k ∧ k < 1 ∧ p) := fun k p => by omega
  have a : (fun k => if 1 ≤ k ∧ k < 1 ∧ n.loose k = true then n.now k else n.has k) = n.has := funext fun k => if_neg (h' k _)
  have b : (fun k => if 1 ≤ k ∧ k < 1 ∧ n.loose k = true then true else n.sure k) = n.sure := funext fun k => if_neg (h' k _)
  have c : (fun k => if 1 ≤ k ∧ k < 1 then false else n.loose k) = n.loose := funext fun k => if_neg (h k)
  unfold NT.cts
  rw [a, b, c]
theorem hld_one : n.hld 1 = n := by
  have h : ∀ k : Nat, ¬ (1 ≤ k ∧ k < 1) := fun k => by omega
  have h' : ∀ k : Nat, ∀ p : Prop, ¬ (1 ≤ k ∧ k < 1 ∧ p) := fun k p => by omega
  have b : (fun k => if 1 ≤ k ∧ k < 1 ∧ n.loose k = true then false else n.sure k) = n.sure := funext fun k => if_neg (h' k _)
  have c : (fun k => if 1 ≤ k ∧ k < 1 then false else n.loose k) = n.loose := funext fun k => if_neg (h k)
  unfold NT.hld
  rw [b, c]
theorem ge_upd {α : Type} (hj : 1 ≤ j) (f g : Nat → α) : (fun k => if 1 ≤ k ∧ k < j + 1 then f k else g k) = upd (fun k => if 1 ≤ k ∧ k < j then f k else g k) j (f j) := by
  funext k
  unfold upd
  by_cases e : k = j
  · subst e
    rw [if_pos ⟨hj, by omega⟩, if_pos rfl]
  · rw [if_neg e]
    show _ = ite _ _ _
    by_cases h : 1 ≤ k ∧ k < j
    · rw [if_pos h, if_pos ⟨h.1, by omega⟩]
    · rw [if_neg h, if_neg (by omega)]
theorem ge_updl {α : Type} (hj : 1 ≤ j) {l : Nat → Bool} (hl : l j = true) (f g : Nat → α) : (fun k => if 1 ≤ k ∧ k < j + 1 ∧ l k = true then f k else g k) = upd (fun k => if 1 ≤ k ∧ k < j ∧ l k = true then f k else g k) j (f j) := by
  funext k
  unfold upd
  by_cases e : k = j
  · subst e
    rw [if_pos ⟨hj, by omega, hl⟩, if_pos rfl]
  · rw [if_neg e]
    show _ = ite _ _ _
    by_cases h : 1 ≤ k ∧ k < j ∧ l k = true
    · rw [if_pos h, if_pos ⟨h.1, by omega, h.2.2⟩]
    · rw [if_neg h, if_neg (by rintro ⟨a, b, c⟩; exact h ⟨a, by omega, c⟩)]
theorem ge_same {α : Type} {l : Nat → Bool} (hl : l j = false) (f g : Nat → α) : (fun k => if 1 ≤ k ∧ k < j + 1 ∧ l k = true then f k else g k) = (fun k => if 1 ≤ k ∧ k < j ∧ l k = true then f k else g k) := by
  funext k
  by_cases e : k = j
  · subst e
    rw [if_neg (by simp [hl]), if_neg (by simp)]
  · by_cases h : 1 ≤ k ∧ k < j ∧ l k = true
    · rw [if_pos h, if_pos ⟨h.1, by omega, h.2.2⟩]
    · rw [if_neg h, if_neg (by rintro ⟨a, b, c⟩; exact h ⟨a, by omega, c⟩)]
theorem ge_samel {l : Nat → Bool} (hl : l j = false) : (fun k => if 1 ≤ k ∧ k < j + 1 then false else l k) = (fun k => if 1 ≤ k ∧ k < j then false else l k) := by
  funext k
  by_cases e : k = j
  · subst e
    rw [hl]
    split <;> simp
  · by_cases h : 1 ≤ k ∧ k < j
    · rw [if_pos h, if_pos ⟨h.1, by omega⟩]
    · rw [if_neg h, if_neg (by omega)]
theorem cts_yes (hj : 1 ≤ j) (hl : n.loose j = true) : n.cts r (j + 1) = { root := r, has := upd (n.cts r j).has j ((n.cts r j).now j), now := (n.cts r j).now, sure := upd (n.cts r j).sure j true, loose := upd (n.cts r j).loose j false } := by
  unfold NT.cts
  rw [ge_updl hj hl n.now n.has, ge_updl hj hl (fun _ => true) n.sure, ge_upd hj (fun _ => false) n.loose]
theorem cts_no (hl : n.loose j = false) : n.cts r (j + 1) = n.cts r j := by
  unfold NT.cts
  rw [ge_same hl, ge_same hl, ge_samel hl]
theorem hld_yes (hj : 1 ≤ j) (hl : n.loose j = true) : n.hld (j + 1) = { root := (n.hld j).root, has := (n.hld j).has, now := (n.hld j).now, sure := upd (n.hld j).sure j false, loose := upd (n.hld j).loose j false } := by
  unfold NT.hld
  rw [ge_updl hj hl (fun _ => false) n.sure, ge_upd hj (fun _ => false) n.loose]
theorem hld_no (hl : n.loose j = false) : n.hld (j + 1) = n.hld j := by
  unfold NT.hld
  rw [ge_same hl, ge_samel hl]
theorem cts_loose : (n.cts r j).loose j = n.loose j := by simp [NT.cts]
theorem hld_loose : (n.hld j).loose j = n.loose j := by simp [NT.hld]
theorem hld_sure : (n.hld j).sure j = n.sure j := by simp [NT.hld]
end
section
variable {base q hp np sp lp : Nat} {n : NT} {w w' : World}
set_option maxRecDepth 100000 in
set_option maxHeartbeats 4000000 in
theorem counts_any (h : NotesAt base q hp np sp lp n w) (r : ByteArray) :
    Calls Tryz.prog 16 #[.pointer (some ⟨q, 0, none⟩), .string r] w fun e w' => e = .returned (.tuple #[]) ∧ NotesAt base q hp np sp lp (n.cts r 8) w' ∧ Stir (NFoot q hp np sp lp) w w' := by
  obtain ⟨w1, hw1⟩ : ∃ w1, w.setCell ⟨q, 0, none⟩ (.string r) = w1 := ⟨_, rfl⟩
  obtain ⟨h1, s1⟩ := h.setRoot r
  rw [hw1, ← cts_one] at h1
  rw [hw1] at s1
  obtain ⟨a0, a1, a2, a3, a4, f0⟩ := notesO.cells (n := n) h.obj
  have H1 := Lib.hid h1
  have S1 := Lib.hid s1
  clear h h1 s1
  go_enter Tryz.func16, Tryz.ntmps16
  go_wp2
  go_loopw [4] (fun i wr => ∃ j : Nat, 1 ≤ j ∧ j ≤ 8 ∧ i = .int .i64 j ∧ Hid (NotesAt base q hp np sp lp (n.cts r j) wr) ∧ Hid (Stir (NFoot q hp np sp lp) w wr)) (fun i _ => 8 - (intOf i).toNat)
  case atStart => exact ⟨1, Nat.le_refl _, by omega, rfl, H1, S1⟩
  case round =>
    obtain ⟨j, hj, hj8, rfl, HN, HS⟩ := hrel
    clear H1 S1 a0 a1 a2 a3 a4 f0 hw1
    by_cases hlt : j < 8
    · have hji : (j : Int) < 8 := by omega
      obtain ⟨a0, a1, a2, a3, a4, f0⟩ := notesO.cells (n := n.cts r j) HN.out.obj
      have c4 := boolsO.cell HN.out.loose hlt
      rw [cts_loose] at c4
      cases hl : n.loose j with
      | false =>
        rw [hl] at c4
        have HN2 := Lib.hid (show NotesAt base q hp np sp lp (n.cts r (j + 1)) wr by rw [cts_no hl]; exact HN.out)
        clear hl
        go_wp2
        go_roundw
        case rel => exact ⟨j + 1, by omega, by omega, by go_num, HN2, HS⟩
        case measure => simp [intOf]; omega
      | true =>
        rw [hl] at c4
        have c2 := strsO.cell HN.out.now hlt
        have c1f := strsO.fr HN.out.has
        obtain ⟨h2, s2⟩ := HN.out.setHas j ((n.cts r j).now j)
        obtain ⟨w2, hw2⟩ : ∃ w2, (wr.setCell ⟨hp, j, none⟩ (.string ((n.cts r j).now j))).drew = w2 := ⟨_, rfl⟩
        replace s2 := s2.drew
        replace h2 := h2.drew
        rw [hw2] at h2 s2
        obtain ⟨h3, s3⟩ := h2.setSure j true
        obtain ⟨w3, hw3⟩ : ∃ w3, w2.setCell ⟨sp, j, none⟩ (.bool true) = w3 := ⟨_, rfl⟩
        rw [hw3] at h3 s3
        obtain ⟨h4, s4⟩ := h3.setLoose j false
        obtain ⟨w4, hw4⟩ : ∃ w4, w3.setCell ⟨lp, j, none⟩ (.bool false) = w4 := ⟨_, rfl⟩
        rw [hw4] at h4 s4
        have HN4 := Lib.hid (show NotesAt base q hp np sp lp (n.cts r (j + 1)) w4 by rw [cts_yes hj hl]; exact h4)
        have HS4 := Lib.hid (((HS.out.trans s2 (fun _ h => .inl h)).trans s3 (fun _ h => .inl h)).trans s4 (fun _ h => .inl h))
        obtain ⟨b0, b1, b2, b3, b4, g0⟩ := notesO.cells h2.obj
        obtain ⟨d0, d1, d2, d3, d4, e0⟩ := notesO.cells h3.obj
        have c3f := boolsO.fr h2.sure
        have c3 := boolsO.cell h2.sure hlt
        have c5 := boolsO.cell h3.loose hlt
        have c5f := boolsO.fr h3.loose
        have c1 := strsO.cell HN.out.has hlt
        generalize (n.cts r j).now j = T at *
        clear hl h2 h3 h4 s2 s3 s4
        go_wp2
        go_region
        all_goals (
          go_wp2
          go_roundw
          case rel => exact ⟨j + 1, by omega, by omega, by go_num, HN4, HS4⟩
          case measure => simp [intOf]; omega)
    · have hji : ¬ (j : Int) < 8 := by omega
      have hj8' : j = 8 := by omega
      go_wp2
      go_end0
      exact ⟨rfl, by rw [← hj8']; exact HN.out, HS.out⟩
end
section
variable {w0 : World} {l b g m c q hp np sp lp : Nat} {n : NT} {x : VS} {w w' : World}
set_option maxRecDepth 100000 in
set_option maxHeartbeats 8000000 in
theorem nholds_any (h : VW w0 l b g m c x w) (hn : NotesAt w0.heap.size q hp np sp lp n w) (hs : Sound x) (hl8 : x.disk.stay.length = 32)
    (he : ∀ k : Nat, 1 ≤ k → k < 8 → n.sure k = true → n.loose k = false → (n.has k).size ≤ 240 ∧ Lies x.disk k (frameL (n.has k).data.toList)) :
    Calls Tryz.prog 23 #[.pointer (some ⟨q, 0, none⟩), .pointer (some ⟨l, 0, none⟩)] w fun e w' => e = .returned (.bool true) ∧ ∃ y, VW w0 l b g m c y w' ∧ NotesAt w0.heap.size q hp np sp lp (n.hld 8) w' ∧ Sound y ∧ y.disk = x.disk ∧ y.text = x.text ∧ y.num = x.num := by
  have H0 := Lib.hid (show NotesAt w0.heap.size q hp np sp lp (n.hld 1) w by rw [hld_one]; exact hn)
  have V0 := Lib.hid h
  have G0 := Lib.hid (show Sound x ∧ x.disk = x.disk ∧ x.text = x.text ∧ x.num = x.num from ⟨hs, rfl, rfl, rfl⟩)
  have HE := Lib.hid he
  have HL := Lib.hid hl8
  clear h hn hs he hl8
  go_enter Tryz.func23, Tryz.ntmps23
  go_wp2
  go_loopw [5] (fun i wr => ∃ (j : Nat) (y : VS), 1 ≤ j ∧ j ≤ 8 ∧ i = .int .i64 j ∧ Hid (NotesAt w0.heap.size q hp np sp lp (n.hld j) wr) ∧ Hid (VW w0 l b g m c y wr) ∧ Hid (Sound y ∧ y.disk = x.disk ∧ y.text = x.text ∧ y.num = x.num)) (fun i _ => 8 - (intOf i).toNat)
  case atStart => exact ⟨1, x, Nat.le_refl _, by omega, rfl, H0, V0, Lib.hid ⟨G0.out.1, rfl, rfl, rfl⟩⟩
  case round =>
    obtain ⟨j, y, hj, hj8, rfl, HN, HV, HG⟩ := hrel
    clear H0 V0 G0
    by_cases hlt : j < 8
    · have hji : (j : Int) < 8 := by omega
      obtain ⟨a0, a1, a2, a3, a4, f0⟩ := notesO.cells (n := n.hld j) HN.out.obj
      have c4 := boolsO.cell HN.out.loose hlt
      rw [hld_loose] at c4
      have hhas : y.has (j : Int) = true := by
        rw [has_is]
        have : blkN y.disk = 8 := by unfold blkN; rw [HG.out.2.1, HL.out]
        omega
      have CR := fun W (h : VW w0 l b g m c y W) => h.read (j : Int) ⟨by omega, by omega⟩
      obtain ⟨g1, g2, g3, g4⟩ := HG.out.1.read_any (j : Int)
      have HG2 := Lib.hid (And.intro g1 (And.intro (g2.trans HG.out.2.1) (And.intro (g3.trans HG.out.2.2.1) (g4.trans HG.out.2.2.2))))
      have hdo := fun (hsu : n.sure j = true) (hlo : n.loose j = false) => HG.out.1.read hhas (p := n.has j) (HE.out j hj hlt hsu hlo).1 (by rw [Int.toNat_natCast, HG.out.2.1]; exact (HE.out j hj hlt hsu hlo).2)
      clear g1 g2 g3 g4 hhas
      cases hl : n.loose j with
      | false =>
        rw [hl] at c4
        have HN2 := Lib.hid (show NotesAt w0.heap.size q hp np sp lp (n.hld (j + 1)) wr by rw [hld_no hl]; exact HN.out)
        clear a0 f0
        cases hsu : n.sure j with
        | false =>
          clear hdo
          generalize (y.read (j : Int)).2.2 = z at *
          generalize (y.read (j : Int)).2.1 = T at *
          generalize (y.read (j : Int)).1 = E at *
          go_wp2_with fail
          refine (CR _ HV.out).mono ?_
          rintro e w2 ⟨rfl, h2, k2⟩
          have V2 := Lib.hid h2
          have N2 := Lib.hid (HN2.out.keep k2)
          have c3 := boolsO.cell (HN.out.keep k2).sure hlt
          rw [hld_sure, hsu] at c3
          obtain ⟨b0, b1, b2, b3, b4, g0⟩ := notesO.cells N2.out.obj
          clear h2 k2 CR HN HN2 HV hl hsu
          go_wp2
          go_roundw
          case rel => exact ⟨j + 1, z, by omega, by omega, by go_num, N2, V2, HG2⟩
          case measure => simp [intOf]; omega
        | true =>
          obtain ⟨r1, r2, _⟩ := hdo hsu hl
          rw [r1, r2] at CR
          clear hdo r1 r2
          generalize (y.read (j : Int)).2.2 = z at *
          have hT : ((n.has j).toList != (n.has j).toList) = false := by simp
          go_wp2_with fail
          refine (CR _ HV.out).mono ?_
          rintro e w2 ⟨rfl, h2, k2⟩
          have V2 := Lib.hid h2
          have N2 := Lib.hid (HN2.out.keep k2)
          have c3 := boolsO.cell (HN.out.keep k2).sure hlt
          rw [hld_sure, hsu] at c3
          have c1 := strsO.cell (HN.out.keep k2).has hlt
          rw [show (n.hld j).has = n.has from rfl] at c1
          obtain ⟨b0, b1, b2, b3, b4, g0⟩ := notesO.cells N2.out.obj
          clear h2 k2 CR HN HN2 HV hl hsu
          generalize n.has j = T at *
          go_wp2
          go_roundw
          case rel => exact ⟨j + 1, z, by omega, by omega, by go_num, N2, V2, HG2⟩
          case measure => simp [intOf]; omega
      | true =>
        rw [hl] at c4
        clear hdo
        obtain ⟨h3, s3⟩ := HN.out.setSure j false
        obtain ⟨w3, hw3⟩ : ∃ w3, wr.setCell ⟨sp, j, none⟩ (.bool false) = w3 := ⟨_, rfl⟩
        rw [hw3] at h3 s3
        obtain ⟨h4, s4⟩ := h3.setLoose j false
        obtain ⟨w4, hw4⟩ : ∃ w4, w3.setCell ⟨lp, j, none⟩ (.bool false) = w4 := ⟨_, rfl⟩
        rw [hw4] at h4 s4
        have HN4 := Lib.hid (show NotesAt w0.heap.size q hp np sp lp (n.hld (j + 1)) w4 by rw [hld_yes hj hl]; exact h4)
        have HV4 := Lib.hid (vw_notes (vw_notes HV.out HN.out s3) h3 s4)
        have hsu4 : (n.hld (j + 1)).sure j = false := by simp [NT.hld, hj, hl]
        obtain ⟨d0, d1, d2, d3, d4, e0⟩ := notesO.cells h3.obj
        have c3 := boolsO.cell HN.out.sure hlt
        have c3f := boolsO.fr HN.out.sure
        have c5 := boolsO.cell h3.loose hlt
        have c5f := boolsO.fr h3.loose
        clear hl h3 h4 s3 s4 HV
        generalize (y.read (j : Int)).2.2 = z at *
        generalize (y.read (j : Int)).2.1 = T at *
        generalize (y.read (j : Int)).1 = E at *
        go_wp2_with fail
        refine (CR _ HV4.out).mono ?_
        rintro e w2 ⟨rfl, h2, k2⟩
        have V2 := Lib.hid h2
        have N2 := Lib.hid (HN4.out.keep k2)
        have t3 := boolsO.cell N2.out.sure hlt
        rw [hsu4] at t3
        obtain ⟨b0, b1, b2, b3, b4, g0⟩ := notesO.cells N2.out.obj
        clear h2 k2 CR HN HN4 HV4 c3 c3f c5 c5f hw3 hw4
        go_wp2
        go_roundw
        case rel => exact ⟨j + 1, z, by omega, by omega, by go_num, N2, V2, HG2⟩
        case measure => simp [intOf]; omega
    · have hji : ¬ (j : Int) < 8 := by omega
      have hj8' : j = 8 := by omega
      go_wp2
      go_ret
      exact ⟨rfl, y, HV.out, by rw [← hj8']; exact HN.out, HG.out.1, HG.out.2.1, HG.out.2.2.1, HG.out.2.2.2⟩
end
end Go.Proofs.YthnpdiopaeommaaGreat

