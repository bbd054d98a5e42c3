/-
  Path: a path's names.
-/
import Derived.Test.YtmloljjllmmkoaaDoorCmdTA
import Derived.Test.YtmloljjllmmkoaaDoorCmdS
import Derived.Test.YtmloljjllmmkoaaDoorTabN
import Derived.Deep.CutRange
import Derived.Deep.RegionHeld3
namespace Go.Proofs.YtmloljjllmmkoaaDoor
open Go.RowKit Go

theorem joinB_part {c : UInt8} : ∀ {ps : List ByteArray} {p : ByteArray}, p ∈ ps → p.size ≤ (joinB c ps).length
  | [], _, h => by simp at h
  | [q], p, h => by
    have hs : q.data.toList.length = q.size := Array.length_toList (xs := q.data)
    rw [List.mem_singleton.1 h]
    show q.size ≤ q.data.toList.length
    omega
  | q :: q1 :: r, p, h => by
    have hs : q.data.toList.length = q.size := Array.length_toList (xs := q.data)
    show p.size ≤ (q.data.toList ++ c :: joinB c (q1 :: r)).length
    simp only [List.length_append, List.length_cons]
    rcases List.mem_cons.1 h with rfl | h
    · omega
    · have := joinB_part (c := c) h
      omega
theorem CutN.part {c : UInt8} {n : Nat} {s p : ByteArray} {ps : List ByteArray} (h : CutN c n s ps) (hp : p ∈ ps) : p.size ≤ s.size := by
  have := joinB_part (c := c) hp
  rw [h.2.2.1] at this
  have hs : s.data.toList.length = s.size := Array.length_toList (xs := s.data)
  omega
/-- what Path answers -/
def PathE (s : ByteArray) (B : Nat) (e : Ending) (w' : World) : Prop :=
  (∃ l v, IsPath s l ∧ e = .returned (.tuple #[v, .int .i64 0]) ∧ w'.ownsRow B 9 1 v l.length (strVs l)) ∨ ((∀ l, ¬ IsPath s l) ∧ e = .returned (.tuple #[.slice none 0 0, .int .i64 130]))
theorem set_same {C : Array Value} {i : Nat} {x : Value} (h : C[i]? = some x) : C.setIfInBounds i x = C := by
  apply Array.ext_getElem?
  intro j
  rw [Array.getElem?_setIfInBounds]
  split
  · subst_vars
    split
    · exact h.symm
    · rw [Array.getElem?_eq_none (by omega)]
  · rfl
theorem cellsOf_at {ps : List ByteArray} {N k : Nat} (hk : k < ps.length) : (Lib.cellsOf ps N)[k]? = some (.string ps[k]) := by
  unfold Lib.cellsOf
  rw [List.getElem?_toArray, List.getElem?_append_left (by simpa using hk)]
  simp [hk]
theorem owns_cells {w : World} {B g N : Nat} {ps : List ByteArray} (hB : B ≤ g) (h : w.heap[g]? = some (.cells (Lib.cellsOf ps N) 9 (0, 0))) (hN : ps.length ≤ N) (hm : N ≤ maxLen) :
    w.ownsRow B 9 1 (.slice (some ⟨g, 0, none⟩) ps.length N) ps.length (strVs ps) := by
  have hsz := Lib.cellsOf_size hN
  refine ⟨by simp [strVs], .inr ⟨g, N, Lib.cellsOf ps N, rfl, hB, h, hN, hm, by omega, ?_⟩⟩
  simp [Lib.cellsOf, strVs]
set_option maxRecDepth 100000 in
set_option maxHeartbeats 4000000 in
theorem path_any (s : ByteArray) (hs : s.size ≤ 281474976710656) (w : World) :
    Calls Tryd.prog 10 #[.string s] w fun e w' => PathE s w.heap.size e w' ∧ Below w.heap.size w w' := by
  have CC := fun w => cutPrefix_any s 47 w
  by_cases h0 : s.toList = [47]
  · have b0 : (s.toList == [47]) = true := beq_iff_eq.2 h0
    have HE := Lib.hid (show IsPath s [] from ⟨by simp, by simp, .inl ⟨rfl, by rw [← toList_eq, h0]⟩⟩)
    clear h0 CC
    go_enter Tryd.func10, Tryd.ntmps10
    go_wp2
    go_ret2
    exact ⟨.inl ⟨[], _, HE.out, rfl, World.ownsRow_nil _ _ _ _⟩, Below.refl _ _⟩
  · have b0 : (s.toList == [47]) = false := beq_eq_false_iff_ne.2 h0
    rw [toList_eq] at h0
    by_cases h1 : ∃ r : ByteArray, s.data.toList = 47 :: r.data.toList
    · obtain ⟨r, hr⟩ := h1
      obtain ⟨p1, p2⟩ := cut_yes hr
      rw [p1, p2, bs_self] at CC
      have hrs : r.size ≤ s.size := by
        have e1 : s.data.toList.length = s.size := Array.length_toList (xs := s.data)
        have e2 : r.data.toList.length = r.size := Array.length_toList (xs := r.data)
        have := congrArg List.length hr
        rw [List.length_cons] at this
        omega
      have CS := fun w => splitN_any r 47 9 (by omega) (by omega) (by omega) w
      have HR := Lib.hid hr
      have H0 := Lib.hid h0
      clear h0 hr p1 p2
      go_enter Tryd.func10, Tryd.ntmps10
      go_upto_region 4 with (refine (CC _).mono ?_; rintro e w' ⟨rfl, rfl⟩)
      go_wp2_with fail
      refine (CS _).mono ?_
      rintro e w1 ⟨ps, hc, N, hpN, hNn, rfl, hw1⟩
      have HC := Lib.hid hc
      have hpl : ps.length ≤ 9 := hc.2.1
      have hg : w1.heap[w.heap.size]? = some (.cells (Lib.cellsOf ps N) 9 (0, 0)) := by rw [hw1]; exact heap_alloc_new _ _
      have HB := Lib.hid (show Below w.heap.size w w1 by rw [hw1]; exact (Below.refl _ w).alloc (Nat.le_refl _) _)
      have hgs : w.heap.size < w1.heap.size := lt_of_heap hg
      clear hc hw1 CC CS
      by_cases hl : ps.length = 9
      · have hl8 : (8 : Int) < (ps.length : Int) := by omega
        have HE := Lib.hid (show ∀ l, ¬ IsPath s l by
          intro l h
          by_cases hn : l = []
          · subst hn
            rcases h.2.2 with ⟨_, e⟩ | ⟨e, _⟩
            · exact H0.out e
            · exact e rfl
          · have := HC.out.long (h.parts hn HR.out)
            have := h.2.1
            omega)
        go_wp2
        go_ret2
        exact ⟨.inr ⟨HE.out, rfl⟩, HB.out⟩
      · have hl8 : ¬ (8 : Int) < (ps.length : Int) := by omega
        have HP := Lib.hid (HC.out.short (by omega))
        go_wp2
        go_loopw [27] (fun i wr => ∃ k : Nat, k ≤ ps.length ∧ i = .int .i64 k ∧ Hid (∀ j (h : j < ps.length), j < k → NameOk ps[j]) ∧ wr.heap[w.heap.size]? = some (.cells (Lib.cellsOf ps N) 9 (0, 0)) ∧ Hid (Below w.heap.size w wr)) (fun i _ => ps.length - (intOf i).toNat)
        case atStart => exact ⟨0, Nat.zero_le _, rfl, Lib.hid (fun _ _ h => absurd h (by omega)), hg, HB⟩
        case round =>
          clear hg
          obtain ⟨k, hk, rfl, HN, hg, HBr⟩ := hrel
          have hgr := lt_of_heap hg
          by_cases hlt : k < ps.length
          · have hki : (k : Int) < (ps.length : Int) := by omega
            have hcell : wr.cell? ⟨w.heap.size, k, none⟩ = some (.string ps[k]) := by
              have hx := cellsOf_at (N := N) hlt
              simp [World.cell?, hg, hx]
            have hps : ps[k].size ≤ s.size := Nat.le_trans (HC.out.part (List.getElem_mem hlt)) hrs
            have CN := fun w => name_any ps[k] (by omega) w
            have CL := fun w => clone_any ps[k] (by omega) w
            by_cases hnm : NameOk ps[k]
            · have HS := Lib.hid (show ∀ j (h : j < ps.length), j < k + 1 → NameOk ps[j] by
                intro j h hj
                rcases Nat.lt_or_ge j k with h1 | h1
                · exact HN.out j h h1
                · obtain rfl : j = k := by omega
                  exact hnm)
              have HX := Lib.hid (cellsOf_at (N := N) hlt)
              rw [nameB_yes hnm] at CN
              generalize ps[k] = x at *
              clear hnm
              go_wp2_with fail
              refine (CN _).mono ?_
              rintro e w' ⟨rfl, rfl⟩
              go_wp2_with fail
              refine (CL _).mono ?_
              rintro e w2 ⟨rfl, hB2⟩
              have hg2 := keeps_of hB2 hg
              have HB2 := Lib.hid (HBr.out.trans (hB2.mono HBr.out.size))
              have hgr2 := lt_of_heap hg2
              have hcell2 := (hB2.cell (p := ⟨w.heap.size, k, none⟩) hgr).trans hcell
              have hfr2 : w2.frozen? ⟨w.heap.size, k, none⟩ = false := by simp [World.frozen?, hg2]
              clear hB2 hcell hg hgr
              go_wp2_with fail
              go_roundw
              case rel =>
                refine ⟨k + 1, hlt, by go_num, HS, ?_, Lib.hid (HB2.out.setCell (Nat.le_refl _) _)⟩
                rw [heap_set hg2, set_same HX.out]
              case measure => simp [intOf]; omega
            · have HE := Lib.hid (show ∀ l, ¬ IsPath s l by
                intro l h
                by_cases hn : l = []
                · subst hn
                  rcases h.2.2 with ⟨_, e⟩ | ⟨e, _⟩
                  · exact H0.out e
                  · exact e rfl
                · have e := (h.parts hn HR.out).uniq HP.out
                  subst e
                  exact hnm (h.1 _ (List.getElem_mem hlt)))
              rw [nameB_no hnm] at CN
              generalize ps[k] = x at *
              clear hnm
              go_wp2_with (refine (CN _).mono ?_; rintro e w' ⟨rfl, rfl⟩)
              go_ret2
              exact ⟨.inr ⟨HE.out, rfl⟩, HBr.out⟩
          · obtain rfl : k = ps.length := by omega
            have HE := Lib.hid (show IsPath s ps from .some HR.out HP.out (fun n hn => by
              obtain ⟨j, hj, rfl⟩ := List.getElem_of_mem hn
              exact HN.out j hj hj) (by omega))
            have HO := Lib.hid (owns_cells (Nat.le_refl _) hg hpN (by unfold maxLen; omega))
            go_wp2
            go_ret2
            exact ⟨.inl ⟨ps, _, HE.out, rfl, HO.out⟩, HBr.out⟩
    · have h1' : ∀ r : ByteArray, s.data.toList ≠ 47 :: r.data.toList := fun r e => h1 ⟨r, e⟩
      obtain ⟨p1, p2⟩ := cut_no h1'
      rw [p1, p2, bs_self] at CC
      have CS := fun w => splitN_any s 47 9 (by omega) (by omega) hs w
      have HE := Lib.hid (show ∀ l, ¬ IsPath s l by
        intro l h
        rcases h.2.2 with ⟨_, e⟩ | ⟨_, e⟩
        · exact h0 e
        · exact h1 ⟨bs (joinB 47 l), by rw [bs_list]; exact e⟩)
      clear h0 h1 h1' p1 p2
      go_enter Tryd.func10, Tryd.ntmps10
      go_upto_region 4 with (refine (CC _).mono ?_; rintro e w' ⟨rfl, rfl⟩)
      go_wp2_with fail
      refine (CS _).mono ?_
      rintro e w1 ⟨ps, hc, N, hpN, hNn, rfl, hw1⟩
      have HB := Lib.hid (show Below w.heap.size w w1 by rw [hw1]; exact (Below.refl _ w).alloc (Nat.le_refl _) _)
      clear hc hw1 CC CS
      go_wp2
      go_ret2
      exact ⟨.inr ⟨HE.out, rfl⟩, HB.out⟩
end Go.Proofs.YtmloljjllmmkoaaDoor

