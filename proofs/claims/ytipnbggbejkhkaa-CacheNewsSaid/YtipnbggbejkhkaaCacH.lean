/-
  The reference: Drop, Keys.
-/
import Derived.Test.YtipnbggbejkhkaaCacG
namespace Go.Proofs.Ytipnbggbejkhkaa
open Go.RowKit Go

theorem at_some {L : List (Int × ByteArray)} {k : Int} {i : Nat} (h : atL L k = some i) : ∃ hi : i < L.length, L[i].1 = k := by
  unfold atL at h
  obtain ⟨hi, h1, _⟩ := List.findIdx?_eq_some_iff_getElem.1 h
  exact ⟨hi, by simpa using h1⟩
theorem drop_at_none {L : List (Int × ByteArray)} {k : Int} (h : atL L k = none) : dropL L k = L ∧ getL L k = none := by
  unfold atL at h
  rw [List.findIdx?_eq_none_iff] at h
  refine ⟨List.filter_eq_self.2 fun x hx => by have := h x hx; simpa using this, ?_⟩
  unfold getL
  rw [List.find?_eq_none.2 (fun x hx => by have := h x hx; simpa using this)]
  rfl
theorem drop_at_some : ∀ {L : List (Int × ByteArray)} {k : Int} {i : Nat}, (keysL L).Nodup → atL L k = some i → dropL L k = L.eraseIdx i
  | [], k, i, _, h => by simp [atL] at h
  | x :: L, k, i, hn, h => by
    unfold keysL at hn
    rw [List.map_cons, List.nodup_cons] at hn
    unfold atL at h
    rw [List.findIdx?_cons] at h
    by_cases e : x.1 = k
    · rw [if_pos (by simpa using e)] at h
      obtain rfl : 0 = i := Option.some.inj h
      unfold dropL
      rw [List.filter_cons_of_neg (by simpa using e), List.eraseIdx_zero, List.tail_cons]
      exact List.filter_eq_self.2 fun y hy => by
        have : y.1 ≠ k := fun e2 => hn.1 (List.mem_map.2 ⟨y, hy, e2.trans e.symm⟩)
        simpa using this
    · rw [if_neg (by simpa using e)] at h
      obtain ⟨j, hj, rfl⟩ := Option.map_eq_some_iff.1 h
      unfold dropL
      rw [List.filter_cons_of_pos (by simpa using e), List.eraseIdx_cons_succ]
      congr 1
      exact drop_at_some hn.2 hj
theorem get_at_some : ∀ {L : List (Int × ByteArray)} {k : Int} {i : Nat} (h : atL L k = some i), getL L k = some (L[i]'(at_some h).1).2
  | [], k, i, h => by simp [atL] at h
  | x :: L, k, i, h => by
    have h' := h
    unfold atL at h
    rw [List.findIdx?_cons] at h
    by_cases e : x.1 = k
    · rw [if_pos (by simpa using e)] at h
      obtain rfl : 0 = i := Option.some.inj h
      unfold getL
      rw [List.find?_cons_of_pos (by simpa using e)]
      rfl
    · rw [if_neg (by simpa using e)] at h
      obtain ⟨j, hj, rfl⟩ := Option.map_eq_some_iff.1 h
      unfold getL
      rw [List.find?_cons_of_neg (by simpa using e)]
      exact get_at_some hj

/-- what a call of the reference leaves -/
def RefLeft (B : Nat) (G : Nat → Prop) (m room : Nat) (L : List (Int × ByteArray)) (w w' : World) : Prop :=
  ∃ v G', RefAt B G' m room v L w' ∧ Stir G w w' ∧ ∀ k, G' k → G k ∨ w.heap.size ≤ k

section
variable {w w' : World} {B m room : Nat} {G : Nat → Prop} {v : Value} {L : List (Int × ByteArray)}
/-- the list's place turned -/
theorem RefAt.stored_at {w1 : World} (h : RefAt B G m room v L w) (hB : Below w.heap.size w w1) {L' : List (Int × ByteArray)} {v' : Value} (hr : w1.ownsRow w.heap.size 64 2 v' L'.length (thingCells L')) :
    RefAt B (fun k => k = m ∨ v'.ownBlock = some k) m room v' L' (w1.setCell ⟨m, 1, none⟩ v') ∧ Stir G w (w1.setCell ⟨m, 1, none⟩ v') ∧ ∀ k, k = m ∨ v'.ownBlock = some k → G k ∨ w.heap.size ≤ k := by
  have hm := lt_of_heap h.obj
  have hob := keeps_of hB h.obj
  have hne : v'.ownBlock ≠ some m := fun e => by have := (hr.lt m e).1; omega
  refine ⟨⟨RefObj.set1 hob v', ?_, fun _ => Iff.rfl, hne, h.low⟩, (Stir.of_below hB).set (Or.inl ((h.own m).2 (Or.inl rfl))) _, fun k hk => ?_⟩
  · have := ownsRow_of_block (w' := w1.setCell ⟨m, 1, none⟩ v') hr (fun k hk => Below.heap_setCell _ _ _ _ (by rintro rfl; exact hne hk))
    refine ⟨this.1, ?_⟩
    have hBm : B ≤ w.heap.size := Nat.le_trans h.low (Nat.le_of_lt hm)
    rcases this.2 with h1 | ⟨g, cap, cur, h1, h2, h3⟩
    · exact Or.inl h1
    · exact Or.inr ⟨g, cap, cur, h1, Nat.le_trans hBm h2, h3⟩
  · rcases hk with rfl | hk
    · exact Or.inl ((h.own _).2 (Or.inl rfl))
    · exact Or.inr (hr.lt k hk).1
theorem RefAt.stored {w1 : World} (h : RefAt B G m room v L w) (hB : Below w.heap.size w w1) {L' : List (Int × ByteArray)} {v' : Value} (hr : w1.ownsRow w.heap.size 64 2 v' L'.length (thingCells L')) :
    RefLeft B G m room L' w (w1.setCell ⟨m, 1, none⟩ v') := ⟨v', _, h.stored_at hB hr⟩
theorem RefAt.same {w1 : World} (h : RefAt B G m room v L w) (hB : Below w.heap.size w w1) : RefLeft B G m room L w w1 :=
  ⟨v, G, h.later hB, Stir.of_below hB, fun _ h => Or.inl h⟩

set_option maxRecDepth 100000 in
set_option maxHeartbeats 1000000 in
theorem rdrop_any (h : RefAt B G m room v L w) (hL : L.length ≤ 1048576) (hn : (keysL L).Nodup) (k : Int) :
    Calls Try.prog 17 #[.pointer (some ⟨m, 0, none⟩), .int .i64 k] w fun e w' => e = .returned (.bool (getL L k).isSome) ∧ RefLeft B G m room (dropL L k) w w' := by
  have hat := at_any h hL k
  have H := Lib.hid h
  cases ha : atL L k with
  | none =>
    unfold atV at hat
    rw [ha] at hat
    obtain ⟨d1, d2⟩ := drop_at_none ha
    rw [d1, d2]
    clear h ha d1 d2
    go_enter Try.func17, Try.ntmps17
    go_wp2_with fail
    refine hat.mono ?_
    rintro e w1 ⟨rfl, rfl⟩
    go_wp2_with fail
    go_ret
    exact ⟨rfl, H.out.same (Below.refl _ _)⟩
  | some i =>
    unfold atV at hat
    rw [ha] at hat
    obtain ⟨hi, -⟩ := at_some ha
    rw [get_at_some ha, Option.isSome_some, drop_at_some hn ha]
    have hi0 : (0 : Int) ≤ (i : Int) := Int.natCast_nonneg _
    have HI := Lib.hid hi
    have hf := RefObj.fr h.obj 1
    clear h ha hn hi
    go_enter Try.func17, Try.ntmps17
    go_wp2_with fail
    refine hat.mono ?_
    rintro e w1 ⟨rfl, rfl⟩
    go_wp2_with fail
    refine (without_any H.out hL HI.out).mono ?_
    rintro e w1 ⟨g', cap', rfl, hrow, hB⟩
    have ho := keeps_of hB H.out.obj
    have c1 := RefObj.c1 ho
    have f1 := RefObj.fr ho 1
    have HR := Lib.hid hrow
    clear hrow ho hat
    go_wp2_with fail
    go_ret
    exact ⟨rfl, H.out.stored hB HR.out⟩

set_option maxRecDepth 100000 in
set_option maxHeartbeats 1000000 in
theorem rkeys_any (h : RefAt B G m room v L w) (hL : L.length ≤ 1048576) :
    Calls Try.prog 19 #[.pointer (some ⟨m, 0, none⟩)] w fun e w' => ∃ v, e = .returned v ∧ w'.ownsRow w.heap.size 3 1 v (keysL L).length (CI.keyVals (keysL L)) ∧ Below w.heap.size w w' := by
  obtain ⟨i0, hi, hz0, hz1, hz2⟩ := info_parts CI.infoK
  have H := Lib.hid h
  obtain ⟨a, cap, hv⟩ : ∃ a cap, v = .slice a L.length cap := by
    rcases h.row.2 with ⟨rfl, h0⟩ | ⟨g, cap, cur, rfl, _⟩
    · exact ⟨none, 0, by rw [h0]⟩
    · exact ⟨_, _, rfl⟩
  have HV := Lib.hid hv
  have O0 := Lib.hid (World.ownsRow_made (e := 3) (size := 1) w #[] 0 (Nat.le_refl _) (by decide) rfl)
  clear h hv
  go_enter Try.func19, Try.ntmps19
  go_wp2
  go_loopw [3, 4] (fun u i wr => ∃ j : Nat, j ≤ L.length ∧ i = .int .i64 j ∧ wr.ownsRow w.heap.size 3 1 u (L.take j).length (CI.keyVals (keysL (L.take j))) ∧ Below w.heap.size w wr) (fun _ i _ => L.length - (intOf i).toNat)
  case atStart => exact ⟨0, Nat.zero_le _, rfl, O0.out, (Below.refl _ w).alloc (Nat.le_refl _) _⟩
  case round =>
    obtain ⟨j, hj, rfl, hrow, hB⟩ := hrel
    have h1 := H.out.later hB
    have c1 := RefObj.c1 h1.obj
    rw [HV.out] at c1
    by_cases hlt : j < L.length
    · obtain ⟨g, cap', e, -, -, h3, -, h4, h5⟩ := h1.thing hlt
      rw [HV.out] at e
      obtain ⟨rfl, -, rfl⟩ : a = some ⟨g, 0, none⟩ ∧ True ∧ cap = cap' := by simpa using e
      have HK := Lib.hid (show CI.keyVals (keysL (L.take (j + 1))) = CI.keyVals (keysL (L.take j)) ++ [.int .i64 L[j].1] by
        rw [List.take_succ_eq_append_getElem hlt]; unfold CI.keyVals keysL; rw [List.map_append, List.map_append]; rfl)
      have HT := Lib.hid (show (L.take (j + 1)).length = (L.take j).length + 1 by simp [List.length_take]; omega)
      have hTk : (L.take j).length = j := by simp; omega
      have hji : (j : Int) < (L.length : Int) := by omega
      have HB := Lib.hid hB
      have hsz := hB.size
      rw [hTk] at hrow HT
      clear e h5 h1 hB
      generalize L[j].1 = z at *
      generalize CI.keyVals (keysL (L.take j)) = ks at *
      go_wp2_with (at_builtin; refine wpList_append_own _ rfl _ _ 27 rfl w.heap.size 3 i0 (.int .i64 0) 1 8 Try.underlying27 hi hz0 hz1 hz2 rfl (by decide) _ _ _ rfl (hrow.alloc _) ⟨wr.heap.size, 0, none⟩ 1 1 [.int .i64 z] rfl rfl (cell_one_new _ _ _) (by simp [Value.oneCell']) (by unfold maxLen; omega) (by omega) (by simp; omega) ?_; intro v' w1 hown' hgrow _; have hB3 : Below w.heap.size wr w1 := ((Below.refl _ wr).alloc hsz _).grown hgrow (by simp; omega) (fun j ej => (hrow.lt j ej).1); have HO := Lib.hid hown'; have HB4 := Lib.hid (HB.out.trans hB3); clear hown' hgrow hB3)
      go_roundw
      case rel => exact ⟨j + 1, hlt, by go_num, by rw [HT.out, HK.out]; exact HO.out, HB4.out⟩
      case measure => simp [intOf]; omega
    · obtain rfl : j = L.length := by omega
      rw [List.take_length] at hrow
      have HB := Lib.hid hB
      clear h1 hB
      go_wp2
      go_ret
      refine ⟨_, rfl, ?_, HB.out⟩
      unfold keysL at *
      rw [List.length_map]
      exact hrow
end
end Go.Proofs.Ytipnbggbejkhkaa
