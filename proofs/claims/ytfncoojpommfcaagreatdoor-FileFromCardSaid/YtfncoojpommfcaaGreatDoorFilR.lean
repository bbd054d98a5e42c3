/-
  A tree: Do.
-/
import Derived.Test.YtfncoojpommfcaaGreatDoorFilQ
import Derived.Test.YtfncoojpommfcaaGreatDoorFilW
import Derived.Test.YtfncoojpommfcaaGreatDoorC3
namespace Go.Proofs.YtfncoojpommfcaaGreatDoor
open Go.RowKit Go Go.Maps

theorem doV_no {T : List Nod} {c : Cmd} (h : ¬ MayC c) : doV T c = (T, 1) := by unfold doV; rw [if_pos h]
theorem doV_kind {T : List Nod} {c : Cmd} {k : Nat} (hk : k < 9) (hc : c.kind = k) (h : MayK c k) : doV T c =
    if k = 0 then makeV T (namesOf c.path) false else if k = 1 then makeV T (namesOf c.path) true else if k = 2 then writeV T (namesOf c.path) c.place c.data
    else if k = 3 then cutV T (namesOf c.path) c.place else if k = 4 then linkV T (namesOf c.path) (namesOf c.dest) else if k = 5 then renameV T (namesOf c.path) (namesOf c.dest)
    else if k = 6 then removeV T (namesOf c.path) else (T, 1) := by
  unfold doV
  rw [if_neg (fun f => f ⟨k, hk, hc, h⟩), hc]
  rcases below9 hk with rfl | rfl | rfl | rfl | rfl | rfl | rfl | rfl | rfl <;> rfl
theorem LeftT.start {B c : Nat} {F : Nat → Prop} {T : List Nod} {w w1 w2 : World} (hB : Below w.heap.size w w1) (h : LeftT B F c T w1 w2) : LeftT B F c T w w2 := by
  obtain ⟨F', h1, h2, h3⟩ := h
  exact ⟨F', h1, (Stir.of_below (F := F) hB).trans h2 (fun i hi => .inl hi), fun k hk => (h3 k hk).imp id (fun h => Nat.le_trans hB.size h)⟩
section
variable {w w' w2 : World} {B b : Nat} {F : Nat → Prop} {T : List Nod}
set_option maxRecDepth 100000 in
set_option maxHeartbeats 4000000 in
theorem do_any (h : TreeIs B F b T w) (hG : Good T) (c : Cmd) (hc : CmdIn c) (hlen : ∀ k < 9, c.data.size ≤ 512 → (lineK k c).length ≤ 140737488355328) (hg : GE w) :
    Calls Tryz.prog 14 #[.pointer (some ⟨b, 0, none⟩), cmdV c] w fun e w' => e = .returned (.int .i64 (doV T c).2) ∧ LeftT B F b (doV T c).1 w w' := by
  obtain ⟨w1, hw1⟩ : ∃ w1, w.alloc (CmdObj c) = w1 := ⟨_, rfl⟩
  have hB1 : Below w.heap.size w w1 := by rw [← hw1]; exact (Below.refl _ w).alloc (Nat.le_refl _) _
  have ha1 : CmdAt c w.heap.size w1 := by rw [← hw1]; exact .new _ _
  obtain ⟨c0, c1, c2, c3, c4⟩ := ha1.cells
  have CP := print_any c hc hlen w1 (hg.below hB1)
  have HB1 := Lib.hid hB1
  have HA1 := Lib.hid ha1
  have HH := Lib.hid h
  have HG := Lib.hid hG
  have HC := Lib.hid hc
  unfold cmdV at CP ⊢
  unfold CmdObj at hw1
  clear hB1 ha1 hg hc hlen h hG
  have HX : Hid (∀ w2, Below w1.heap.size w1 w2 → CmdAt c w.heap.size w2 ∧ TreeIs B F b T w2 ∧ Below w.heap.size w w2) := Lib.hid (fun w2 hB => ⟨HA1.out.later hB, (HH.out.later HB1.out).later hB, HB1.out.trans (hB.mono HB1.out.size)⟩)
  obtain ⟨V, hV⟩ : ∃ V, doV T c = V := ⟨_, rfl⟩
  have HV := Lib.hid hV
  rw [hV]
  clear hV
  obtain ⟨VT, VE⟩ := V
  go_enter Tryz.func14, Tryz.ntmps14
  go_wp2_with fail
  refine CP.mono ?_
  rintro e w2 ⟨hE, hB2⟩
  obtain ⟨hA2, hT2, hBw⟩ := HX.out w2 hB2
  clear c0 c1 c2 c3 c4
  obtain ⟨c0, c1, c2, c3, c4⟩ := hA2.cells
  have HT2 := Lib.hid hT2
  have HBW := Lib.hid hBw
  clear hA2 hT2 hBw hB2
  rcases hE with ⟨k, hk, hck, hm, rfl⟩ | ⟨hno, rfl⟩
  · have HV2 := Lib.hid (HV.out.symm.trans (doV_kind hk hck hm))
    generalize bs (lineK k c) = ln
    rw [hck] at c0
    have HCK := Lib.hid hck
    have HMK := Lib.hid hm
    clear hck hm
    rcases below9 hk with rfl | rfl | rfl | rfl | rfl | rfl | rfl | rfl | rfl
    · replace c0 : w2.cell? ⟨w.heap.size, 0, none⟩ = some (.int .i64 0) := c0
      have hm : MayK c 0 := HMK.out
      have C := create_any HT2.out HG.out.formed HC.out.path (namesOf_path hm.1) false
      clear hm
      have e : (VT, VE) = makeV T (namesOf c.path) false := HV2.out
      rw [← e] at C
      clear e hk CP
      go_wp2_with fail
      refine C.mono ?_
      rintro e w3 ⟨rfl, hL⟩
      go_wp2
      go_ret
      exact ⟨rfl, LeftT.start HBW.out hL⟩
    · replace c0 : w2.cell? ⟨w.heap.size, 0, none⟩ = some (.int .i64 1) := c0
      have hm : MayK c 1 := HMK.out
      have C := create_any HT2.out HG.out.formed HC.out.path (namesOf_path hm.1) true
      clear hm
      have e : (VT, VE) = makeV T (namesOf c.path) true := HV2.out
      rw [← e] at C
      clear e hk CP
      go_wp2_with fail
      refine C.mono ?_
      rintro e w3 ⟨rfl, hL⟩
      go_wp2
      go_ret
      exact ⟨rfl, LeftT.start HBW.out hL⟩
    · replace c0 : w2.cell? ⟨w.heap.size, 0, none⟩ = some (.int .i64 2) := c0
      have hm : MayK c 2 := HMK.out
      have C := write_any HT2.out HG.out.formed HC.out.path (namesOf_path hm.1) hm.2.2.1 hm.2.2.2
      clear hm
      have e : (VT, VE) = writeV T (namesOf c.path) c.place c.data := HV2.out
      rw [← e] at C
      clear e hk CP
      go_wp2_with fail
      refine C.mono ?_
      rintro e w3 ⟨rfl, hL⟩
      go_wp2
      go_ret
      exact ⟨rfl, LeftT.start HBW.out hL⟩
    · replace c0 : w2.cell? ⟨w.heap.size, 0, none⟩ = some (.int .i64 3) := c0
      have hm : MayK c 3 := HMK.out
      have C := cut_any HT2.out HG.out.formed HC.out.path (namesOf_path hm.1) hm.2.2.1
      clear hm
      have e : (VT, VE) = cutV T (namesOf c.path) c.place := HV2.out
      rw [← e] at C
      clear e hk CP
      go_wp2_with fail
      refine C.mono ?_
      rintro e w3 ⟨rfl, hL⟩
      go_wp2
      go_ret
      exact ⟨rfl, LeftT.start HBW.out hL⟩
    · replace c0 : w2.cell? ⟨w.heap.size, 0, none⟩ = some (.int .i64 4) := c0
      have hm : MayK c 4 := HMK.out
      have C := link_any HT2.out HG.out.formed HC.out.path HC.out.dest (namesOf_path hm.1) (namesOf_path hm.2.1)
      clear hm
      have e : (VT, VE) = linkV T (namesOf c.path) (namesOf c.dest) := HV2.out
      rw [← e] at C
      clear e hk CP
      go_wp2_with fail
      refine C.mono ?_
      rintro e w3 ⟨rfl, hL⟩
      go_wp2
      go_ret
      exact ⟨rfl, LeftT.start HBW.out hL⟩
    · replace c0 : w2.cell? ⟨w.heap.size, 0, none⟩ = some (.int .i64 5) := c0
      have hm : MayK c 5 := HMK.out
      have C := rename_any HT2.out HG.out HC.out.path HC.out.dest (namesOf_path hm.1) (namesOf_path hm.2.1)
      clear hm
      have e : (VT, VE) = renameV T (namesOf c.path) (namesOf c.dest) := HV2.out
      rw [← e] at C
      clear e hk CP
      go_wp2_with fail
      refine C.mono ?_
      rintro e w3 ⟨rfl, hL⟩
      go_wp2
      go_ret
      exact ⟨rfl, LeftT.start HBW.out hL⟩
    · replace c0 : w2.cell? ⟨w.heap.size, 0, none⟩ = some (.int .i64 6) := c0
      have hm : MayK c 6 := HMK.out
      have C := remove_any HT2.out HG.out.formed HC.out.path (namesOf_path hm.1)
      clear hm
      have e : (VT, VE) = removeV T (namesOf c.path) := HV2.out
      rw [← e] at C
      clear e hk CP
      go_wp2_with fail
      refine C.mono ?_
      rintro e w3 ⟨rfl, hL⟩
      go_wp2
      go_ret
      exact ⟨rfl, LeftT.start HBW.out hL⟩
    · replace c0 : w2.cell? ⟨w.heap.size, 0, none⟩ = some (.int .i64 7) := c0
      have e : (VT, VE) = (T, 1) := HV2.out
      cases e
      clear hk CP
      go_wp2
      go_ret
      exact ⟨rfl, LeftT.same HH.out HBW.out⟩
    · replace c0 : w2.cell? ⟨w.heap.size, 0, none⟩ = some (.int .i64 8) := c0
      have e : (VT, VE) = (T, 1) := HV2.out
      cases e
      clear hk CP
      go_wp2
      go_ret
      exact ⟨rfl, LeftT.same HH.out HBW.out⟩
  · have e := HV.out.symm.trans (doV_no hno)
    cases e
    clear hno
    go_wp2
    go_ret
    exact ⟨rfl, LeftT.same HH.out HBW.out⟩
end
end Go.Proofs.YtfncoojpommfcaaGreatDoor

