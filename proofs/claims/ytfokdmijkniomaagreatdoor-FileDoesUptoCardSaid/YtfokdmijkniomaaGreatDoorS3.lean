/-
  FilR / FilVx / FilFx.
-/
import Derived.Test.YtfokdmijkniomaaGreatDoorFilQ
import Derived.Test.YtfokdmijkniomaaGreatDoorFilW
import Derived.Test.YtfokdmijkniomaaGreatDoorC3
import Derived.Test.YtfokdmijkniomaaGreatDoorFilEq
import Derived.Test.YtfokdmijkniomaaGreatDoorS1
import Derived.Test.YtfokdmijkniomaaGreatDoorC4
namespace Go.Proofs.YtfokdmijkniomaaGreatDoor
open Go.RowKit Go Go.Maps

theorem doV_no {T : List Nod} {c : Cmd} (h : ¬ MayC c) : doV T c = (T, 1) := by unfold doV; rw [if_pos h]
theorem doV_kind {T : List Nod} {c : Cmd} {k : Nat} (hk : k < 9) (hc : c.kind = k) (h : MayK c k) : doV T c =
    if k = 0 then makeV T (namesOf c.path) false else if k = 1 then makeV T (namesOf c.path) true else if k = 2 then writeV T (namesOf c.path) c.place c.data
    else if k = 3 then cutV T (namesOf c.path) c.place else if k = 4 then linkV T (namesOf c.path) (namesOf c.dest) else if k = 5 then renameV T (namesOf c.path) (namesOf c.dest)
    else if k = 6 then removeV T (namesOf c.path) else (T, 1) := by
  unfold doV
  rw [if_neg (fun f => f ⟨k, hk, hc, h⟩), hc]
  rcases below9 hk with rfl | rfl | rfl | rfl | rfl | rfl | rfl | rfl | rfl <;> rfl
theorem LeftT.start {B c : Nat} {F : Nat → Prop} {T : List Nod} {w w1 w2 : World} (hB : Below w.heap.size w w1) (h : LeftT B F c T w1 w2) : LeftT B F c T w w2 := by
  obtain ⟨F', h1, h2, h3⟩ := h
  exact ⟨F', h1, (Stir.of_below (F := F) hB).trans h2 (fun i hi => .inl hi), fun k hk => (h3 k hk).imp id (fun h => Nat.le_trans hB.size h)⟩
section
variable {w w' w2 : World} {B b : Nat} {F : Nat → Prop} {T : List Nod}
set_option maxRecDepth 100000 in
set_option maxHeartbeats 4000000 in
theorem do_any (h : TreeIs B F b T w) (hG : Good T) (c : Cmd) (hc : CmdIn c) (hlen : ∀ k < 9, c.data.size ≤ 512 → (lineK k c).length ≤ 140737488355328) (hg : GE w) :
    Calls Tryz.prog 7 #[.pointer (some ⟨b, 0, none⟩), cmdV c] w fun e w' => e = .returned (.int .i64 (doV T c).2) ∧ LeftT B F b (doV T c).1 w w' := by
  obtain ⟨w1, hw1⟩ : ∃ w1, w.alloc (CmdObj c) = w1 := ⟨_, rfl⟩
  have hB1 : Below w.heap.size w w1 := by rw [← hw1]; exact (Below.refl _ w).alloc (Nat.le_refl _) _
  have ha1 : CmdAt c w.heap.size w1 := by rw [← hw1]; exact .new _ _
  obtain ⟨c0, c1, c2, c3, c4⟩ := ha1.cells
  have CP := print_any c hc hlen w1 (hg.below hB1)
  have HB1 := Lib.hid hB1
  have HA1 := Lib.hid ha1
  have HH := Lib.hid h
  have HG := Lib.hid hG
  have HC := Lib.hid hc
  unfold cmdV at CP ⊢
  unfold CmdObj at hw1
  clear hB1 ha1 hg hc hlen h hG
  have HX : Hid (∀ w2, Below w1.heap.size w1 w2 → CmdAt c w.heap.size w2 ∧ TreeIs B F b T w2 ∧ Below w.heap.size w w2) := Lib.hid (fun w2 hB => ⟨HA1.out.later hB, (HH.out.later HB1.out).later hB, HB1.out.trans (hB.mono HB1.out.size)⟩)
  obtain ⟨V, hV⟩ : ∃ V, doV T c = V := ⟨_, rfl⟩
  have HV := Lib.hid hV
  rw [hV]
  clear hV
  obtain ⟨VT, VE⟩ := V
  go_enter Tryz.func7, Tryz.ntmps7
  go_wp2_with fail
  refine CP.mono ?_
  rintro e w2 ⟨hE, hB2⟩
  obtain ⟨hA2, hT2, hBw⟩ := HX.out w2 hB2
  clear c0 c1 c2 c3 c4
  obtain ⟨c0, c1, c2, c3, c4⟩ := hA2.cells
  have HT2 := Lib.hid hT2
  have HBW := Lib.hid hBw
  clear hA2 hT2 hBw hB2
  rcases hE with ⟨k, hk, hck, hm, rfl⟩ | ⟨hno, rfl⟩
  · have HV2 := Lib.hid (HV.out.symm.trans (doV_kind hk hck hm))
    generalize bs (lineK k c) = ln
    rw [hck] at c0
    have HCK := Lib.hid hck
    have HMK := Lib.hid hm
    clear hck hm
    rcases below9 hk with rfl | rfl | rfl | rfl | rfl | rfl | rfl | rfl | rfl
    · replace c0 : w2.cell? ⟨w.heap.size, 0, none⟩ = some (.int .i64 0) := c0
      have hm : MayK c 0 := HMK.out
      have C := create_any HT2.out HG.out.formed HC.out.path (namesOf_path hm.1) false
      clear hm
      have e : (VT, VE) = makeV T (namesOf c.path) false := HV2.out
      rw [← e] at C
      clear e hk CP
      go_wp2_with fail
      refine C.mono ?_
      rintro e w3 ⟨rfl, hL⟩
      go_wp2
      go_ret
      exact ⟨rfl, LeftT.start HBW.out hL⟩
    · replace c0 : w2.cell? ⟨w.heap.size, 0, none⟩ = some (.int .i64 1) := c0
      have hm : MayK c 1 := HMK.out
      have C := create_any HT2.out HG.out.formed HC.out.path (namesOf_path hm.1) true
      clear hm
      have e : (VT, VE) = makeV T (namesOf c.path) true := HV2.out
      rw [← e] at C
      clear e hk CP
      go_wp2_with fail
      refine C.mono ?_
      rintro e w3 ⟨rfl, hL⟩
      go_wp2
      go_ret
      exact ⟨rfl, LeftT.start HBW.out hL⟩
    · replace c0 : w2.cell? ⟨w.heap.size, 0, none⟩ = some (.int .i64 2) := c0
      have hm : MayK c 2 := HMK.out
      have C := write_any HT2.out HG.out.formed HC.out.path (namesOf_path hm.1) hm.2.2.1 hm.2.2.2
      clear hm
      have e : (VT, VE) = writeV T (namesOf c.path) c.place c.data := HV2.out
      rw [← e] at C
      clear e hk CP
      go_wp2_with fail
      refine C.mono ?_
      rintro e w3 ⟨rfl, hL⟩
      go_wp2
      go_ret
      exact ⟨rfl, LeftT.start HBW.out hL⟩
    · replace c0 : w2.cell? ⟨w.heap.size, 0, none⟩ = some (.int .i64 3) := c0
      have hm : MayK c 3 := HMK.out
      have C := cut_any HT2.out HG.out.formed HC.out.path (namesOf_path hm.1) hm.2.2.1
      clear hm
      have e : (VT, VE) = cutV T (namesOf c.path) c.place := HV2.out
      rw [← e] at C
      clear e hk CP
      go_wp2_with fail
      refine C.mono ?_
      rintro e w3 ⟨rfl, hL⟩
      go_wp2
      go_ret
      exact ⟨rfl, LeftT.start HBW.out hL⟩
    · replace c0 : w2.cell? ⟨w.heap.size, 0, none⟩ = some (.int .i64 4) := c0
      have hm : MayK c 4 := HMK.out
      have C := link_any HT2.out HG.out.formed HC.out.path HC.out.dest (namesOf_path hm.1) (namesOf_path hm.2.1)
      clear hm
      have e : (VT, VE) = linkV T (namesOf c.path) (namesOf c.dest) := HV2.out
      rw [← e] at C
      clear e hk CP
      go_wp2_with fail
      refine C.mono ?_
      rintro e w3 ⟨rfl, hL⟩
      go_wp2
      go_ret
      exact ⟨rfl, LeftT.start HBW.out hL⟩
    · replace c0 : w2.cell? ⟨w.heap.size, 0, none⟩ = some (.int .i64 5) := c0
      have hm : MayK c 5 := HMK.out
      have C := rename_any HT2.out HG.out HC.out.path HC.out.dest (namesOf_path hm.1) (namesOf_path hm.2.1)
      clear hm
      have e : (VT, VE) = renameV T (namesOf c.path) (namesOf c.dest) := HV2.out
      rw [← e] at C
      clear e hk CP
      go_wp2_with fail
      refine C.mono ?_
      rintro e w3 ⟨rfl, hL⟩
      go_wp2
      go_ret
      exact ⟨rfl, LeftT.start HBW.out hL⟩
    · replace c0 : w2.cell? ⟨w.heap.size, 0, none⟩ = some (.int .i64 6) := c0
      have hm : MayK c 6 := HMK.out
      have C := remove_any HT2.out HG.out.formed HC.out.path (namesOf_path hm.1)
      clear hm
      have e : (VT, VE) = removeV T (namesOf c.path) := HV2.out
      rw [← e] at C
      clear e hk CP
      go_wp2_with fail
      refine C.mono ?_
      rintro e w3 ⟨rfl, hL⟩
      go_wp2
      go_ret
      exact ⟨rfl, LeftT.start HBW.out hL⟩
    · replace c0 : w2.cell? ⟨w.heap.size, 0, none⟩ = some (.int .i64 7) := c0
      have e : (VT, VE) = (T, 1) := HV2.out
      cases e
      clear hk CP
      go_wp2
      go_ret
      exact ⟨rfl, LeftT.same HH.out HBW.out⟩
    · replace c0 : w2.cell? ⟨w.heap.size, 0, none⟩ = some (.int .i64 8) := c0
      have e : (VT, VE) = (T, 1) := HV2.out
      cases e
      clear hk CP
      go_wp2
      go_ret
      exact ⟨rfl, LeftT.same HH.out HBW.out⟩
  · have e := HV.out.symm.trans (doV_no hno)
    cases e
    clear hno
    go_wp2
    go_ret
    exact ⟨rfl, LeftT.same HH.out HBW.out⟩
end
end Go.Proofs.YtfokdmijkniomaaGreatDoor

namespace Go.Proofs.YtfokdmijkniomaaGreatDoor
open Go.RowKit Go Go.Maps

section
variable {T : List Nod} {s u : ByteArray} {l m : List ByteArray}
theorem doV_make (h : IsPath s l) : doV T ⟨0, s, ⟨#[]⟩, 0, ⟨#[]⟩⟩ = makeV T l false := by
  rw [doV_kind (k := 0) (by omega) rfl ⟨⟨l, h⟩, rfl, rfl, rfl⟩, namesOf_is h]; rfl
theorem doV_write (h : IsPath s l) {a : Int} {d : ByteArray} (h0 : 0 ≤ a) (h1 : a ≤ 16384) (hd : d.size ≤ 512) : doV T ⟨2, s, ⟨#[]⟩, a, d⟩ = writeV T l a d := by
  rw [doV_kind (k := 2) (by omega) rfl ⟨⟨l, h⟩, rfl, ⟨h0, h1⟩, hd⟩, namesOf_is h]; rfl
theorem doV_link (h : IsPath s l) (k : IsPath u m) : doV T ⟨4, s, u, 0, ⟨#[]⟩⟩ = linkV T l m := by
  rw [doV_kind (k := 4) (by omega) rfl ⟨⟨l, h⟩, ⟨m, k⟩, rfl, rfl⟩, namesOf_is h, namesOf_is k]; rfl
theorem doV_remove (h : IsPath s l) : doV T ⟨6, s, ⟨#[]⟩, 0, ⟨#[]⟩⟩ = removeV T l := by
  rw [doV_kind (k := 6) (by omega) rfl ⟨⟨l, h⟩, rfl, rfl, rfl⟩, namesOf_is h]; rfl
theorem doV_snap (s : ByteArray) : doV T ⟨7, s, ⟨#[]⟩, 0, ⟨#[]⟩⟩ = (T, 1) := by
  unfold doV
  split
  · rfl
  · simp
theorem readV_yes (h : IsPath s l) {x : Nod} (hf : fileE T l = .ok x) {a n : Int} (ha : 0 ≤ a) (hn : 0 ≤ n) : readV T s a n = (piece x.data a.toNat n.toNat, 0) := by
  obtain ⟨h1, hd⟩ := fileE_ok hf
  obtain ⟨h2, h3⟩ := findE_ok h1
  unfold readV fileR
  rw [findR_yes h, h2]
  simp only
  rw [if_neg (by rw [(isDir_at h3).1, hd]; simp)]
  simp only [h3]
  rw [if_neg (by omega)]
theorem getV_yes (h : IsPath s l) {x : Nod} (hf : findE T l = .ok x) : getV T s = (told x, 0) := by
  obtain ⟨h2, h3⟩ := findE_ok hf
  unfold getV
  rw [findR_yes h, h2]
  simp only [h3]
theorem getV_no (h : ∀ l, ¬ IsPath s l) : getV T s = (zeroN, 140) := by
  unfold getV
  rw [findR_no h]
theorem listV_yes (h : IsPath s l) {x : Nod} (hf : findE T l = .ok x) (hd : x.dir = true) : listV T s = .ok (x.names.map Ent.name) := by
  obtain ⟨h2, h3⟩ := findE_ok hf
  unfold listV
  rw [findR_yes h, h2]
  simp only [h3, hd, if_true]
end
/-! ### The calls that every statement makes -/
def nmA : ByteArray := ⟨#[97]⟩
def nmB : ByteArray := ⟨#[98]⟩
theorem fpathA : IsPath ⟨#[47, 97]⟩ [nmA] := ⟨by unfold NameOk nmA; decide, by decide, .inr ⟨by simp, rfl⟩⟩
theorem fpathB : IsPath ⟨#[47, 98]⟩ [nmB] := ⟨by unfold NameOk nmB; decide, by decide, .inr ⟨by simp, rfl⟩⟩
theorem fpathNo : ∀ l, ¬ IsPath ⟨#[98]⟩ l := fun l h => by
  rcases h.2.2 with ⟨_, h⟩ | ⟨_, h⟩ <;> cases h
def fxA : List Nod := [⟨1, true, 1, ⟨#[]⟩, [⟨nmA, 2⟩]⟩, ⟨2, false, 1, ⟨#[]⟩, []⟩]
def fxB : List Nod := [⟨1, true, 1, ⟨#[]⟩, [⟨nmA, 2⟩, ⟨nmB, 2⟩]⟩, ⟨2, false, 2, ⟨#[]⟩, []⟩]
def fxC : List Nod := [⟨1, true, 1, ⟨#[]⟩, [⟨nmA, 2⟩, ⟨nmB, 2⟩]⟩, ⟨2, false, 2, ⟨#[120]⟩, []⟩]
def fxD : List Nod := [⟨1, true, 1, ⟨#[]⟩, [⟨nmB, 2⟩]⟩, ⟨2, false, 1, ⟨#[120]⟩, []⟩]
theorem fx1 : doV newT ⟨0, ⟨#[47, 97]⟩, ⟨#[]⟩, 0, ⟨#[]⟩⟩ = (fxA, 0) := by rw [doV_make fpathA]; rfl
theorem fx2 : doV fxA ⟨4, ⟨#[47, 97]⟩, ⟨#[47, 98]⟩, 0, ⟨#[]⟩⟩ = (fxB, 0) := by rw [doV_link fpathA fpathB]; kernel_rfl
theorem fx3 : doV fxB ⟨2, ⟨#[47, 98]⟩, ⟨#[]⟩, 0, ⟨#[120]⟩⟩ = (fxC, 0) := by rw [doV_write fpathB (by decide) (by decide) (by decide)]; rfl
theorem fx4 : readV fxC ⟨#[47, 97]⟩ 0 9 = (⟨#[120]⟩, 0) := by rw [readV_yes fpathA (x := ⟨2, false, 2, ⟨#[120]⟩, []⟩) rfl (by decide) (by decide)]; rfl
theorem fx5 : doV fxC ⟨6, ⟨#[47, 97]⟩, ⟨#[]⟩, 0, ⟨#[]⟩⟩ = (fxD, 0) := by rw [doV_remove fpathA]; rfl
theorem fx6 : getV fxD ⟨#[47, 98]⟩ = (⟨2, false, 1, ⟨#[120]⟩⟩, 0) := by rw [getV_yes fpathB (x := ⟨2, false, 1, ⟨#[120]⟩, []⟩) rfl]; rfl
theorem fx7 : listV fxD ⟨#[47]⟩ = .ok [nmB] := by rw [listV_yes .root (x := ⟨1, true, 1, ⟨#[]⟩, [⟨nmB, 2⟩]⟩) rfl rfl]; rfl
theorem fx8 : doV fxD ⟨7, ⟨#[115]⟩, ⟨#[]⟩, 0, ⟨#[]⟩⟩ = (fxD, 1) := doV_snap _
theorem fx9 : getV fxD ⟨#[98]⟩ = (zeroN, 140) := getV_no fpathNo
theorem fx_none : ∀ T, Good T → tolds T ≠ [] := fun T h e => by
  obtain ⟨r, hr, _⟩ := h.formed.root
  have := (at_mem hr).1
  unfold tolds at e
  rw [List.map_eq_nil_iff] at e
  rw [e] at this; cases this
theorem fxA_good : Good fxA := by have := good_new.does ⟨0, ⟨#[47, 97]⟩, ⟨#[]⟩, 0, ⟨#[]⟩⟩; rw [fx1] at this; exact this
theorem fxB_good : Good fxB := by have := fxA_good.does ⟨4, ⟨#[47, 97]⟩, ⟨#[47, 98]⟩, 0, ⟨#[]⟩⟩; rw [fx2] at this; exact this
theorem fxC_good : Good fxC := by have := fxB_good.does ⟨2, ⟨#[47, 98]⟩, ⟨#[]⟩, 0, ⟨#[120]⟩⟩; rw [fx3] at this; exact this
theorem fxD_good : Good fxD := by have := fxC_good.does ⟨6, ⟨#[47, 97]⟩, ⟨#[]⟩, 0, ⟨#[]⟩⟩; rw [fx5] at this; exact this

/-- Do, with a short command -/
theorem do_short {w : World} {B b : Nat} {F : Nat → Prop} {T : List Nod} (h : TreeIs B F b T w) (hG : Good T) (c : Cmd) (hc : CmdIn c) (hl : c.path.size + c.dest.size ≤ 100000000) (hg : GE w) :
    Calls Tryz.prog 7 #[.pointer (some ⟨b, 0, none⟩), cmdV c] w fun e w' => e = .returned (.int .i64 (doV T c).2) ∧ LeftT B F b (doV T c).1 w w' :=
  do_any h hG c hc (fun k hk hd => Nat.le_trans (line_le hk hc.place hd) (by omega)) hg
end Go.Proofs.YtfokdmijkniomaaGreatDoor

namespace Go.Proofs.YtfokdmijkniomaaGreatDoor
open Go.RowKit Go Go.Maps

/-- a tree of the call's own: all its blocks are new since w0 -/
def FxAt (w0 w : World) (c : Nat) (T : List Nod) : Prop := ∃ F, TreeIs w0.heap.size F c T w ∧ Below w0.heap.size w0 w
section
variable {w0 w w' : World} {c : Nat} {T : List Nod}
theorem FxAt.below (h : FxAt w0 w c T) : Below w0.heap.size w0 w := h.choose_spec.2
theorem FxAt.later (h : FxAt w0 w c T) (hB : Below w.heap.size w w') : FxAt w0 w' c T := by
  obtain ⟨F, h1, h2⟩ := h
  exact ⟨F, h1.later hB, h2.trans (hB.mono h2.size)⟩
theorem FxAt.tree (h : FxAt w0 w c T) : ∃ m P G D, TreeAt c m P G T D w := by
  obtain ⟨F, ⟨m, P, G, D, ht, _⟩, _⟩ := h
  exact ⟨m, P, G, D, ht⟩
theorem FxAt.left {F : Nat → Prop} {T' : List Nod} (h : TreeIs w0.heap.size F c T w) (hB : Below w0.heap.size w0 w) (k : LeftT w0.heap.size F c T' w w') : FxAt w0 w' c T' := by
  obtain ⟨F', h1, h2, _⟩ := k
  exact ⟨F', h1, ((Stir.of_below (F := fun _ => False) hB).trans h2 (fun i hi => .inr (h.low hi))).below (fun _ f => f.elim) (Nat.le_refl _)⟩
theorem fdo (h : FxAt w0 w c T) (hG : Good T) (d : Cmd) (hd : CmdIn d) (hl : d.path.size + d.dest.size ≤ 100000000) (hg : GE w0) :
    Calls Tryz.prog 7 #[.pointer (some ⟨c, 0, none⟩), cmdV d] w fun e w' => e = .returned (.int .i64 (doV T d).2) ∧ FxAt w0 w' c (doV T d).1 := by
  obtain ⟨F, h1, h2⟩ := h
  exact (do_short h1 hG d hd hl (hg.below h2)).mono fun e w' ⟨he, hw⟩ => ⟨he, .left h1 h2 hw⟩
theorem fnew (w0 : World) : Calls Tryz.prog 4 #[] w0 fun e w' => ∃ c, e = .returned (.pointer (some ⟨c, 0, none⟩)) ∧ FxAt w0 w' c newT :=
  (new_any w0).mono fun _ _ ⟨c, F, he, ht, hB⟩ => ⟨c, he, F, ht, hB⟩
theorem fread (h : FxAt w0 w c T) (hG : Good T) {s : ByteArray} (hs : s.size ≤ 281474976710656) (a n : Int) (ha : IntOk a) (hn : IntOk n) :
    Calls Tryz.prog 13 #[.pointer (some ⟨c, 0, none⟩), .string s, .int .i64 a, .int .i64 n] w fun e w' => e = .returned (.tuple #[.string (readV T s a n).1, .int .i64 (readV T s a n).2]) ∧ Below w.heap.size w w' := by
  obtain ⟨_, _, _, _, ht⟩ := h.tree
  exact fread_any ht hG.formed hs a n ha hn
theorem fget (h : FxAt w0 w c T) (hG : Good T) {s : ByteArray} (hs : s.size ≤ 281474976710656) :
    Calls Tryz.prog 11 #[.pointer (some ⟨c, 0, none⟩), .string s] w fun e w' => e = .returned (.tuple #[ndeV (getV T s).1, .int .i64 (getV T s).2]) ∧ Below w.heap.size w w' := by
  obtain ⟨_, _, _, _, ht⟩ := h.tree
  exact get_any ht hG.formed hs
theorem flist (h : FxAt w0 w c T) (hG : Good T) {s : ByteArray} (hs : s.size ≤ 281474976710656) :
    Calls Tryz.prog 15 #[.pointer (some ⟨c, 0, none⟩), .string s] w fun e w' => ListE w (listV T s) e w' ∧ Below w.heap.size w w' := by
  obtain ⟨_, _, _, _, ht⟩ := h.tree
  exact list_any ht hG.formed hs
theorem fnodes (h : FxAt w0 w c T) (hG : Good T) :
    Calls Tryz.prog 9 #[.pointer (some ⟨c, 0, none⟩)] w fun e w' => ∃ v, e = .returned v ∧ LstAt ndeC 4 w' v (tolds T) ∧ Below w.heap.size w w' := by
  obtain ⟨_, _, _, _, ht⟩ := h.tree
  refine (nodes_any ht hG.formed).mono fun e w' ⟨v, he, hrow, hB⟩ => ⟨v, he, ?_, hB⟩
  rw [← tolds_len T] at hrow
  exact WT.lst_of_owns (C := ndeC) (fun _ => rfl) (by omega) hrow
theorem cnt_le_all {T : List Nod} (h : Formed T) (k : Int) : cnt T k ≤ 3600 := by
  have := sum_le (f := fun x => cE x.names k) (n := 60) (l := T) (fun x hx => Nat.le_trans (cE_le _ _) (by
    cases hd : x.dir with
    | true => exact (h.dir x hx hd).2.2.1
    | false => rw [(h.file x hx hd).1]; simp))
  have := h.len
  unfold cnt
  omega
theorem nde_in {T : List Nod} (h : Good T) : ∀ r ∈ tolds T, NdeIn r := by
  intro r hr
  obtain ⟨x, hx, rfl⟩ := List.mem_map.1 hr
  obtain ⟨_, _, e3, e4, _⟩ := NodOf.of h.formed hx
  have h1 := h.formed.num x hx
  have h2 : 1 ≤ x.links ∧ x.links ≤ 3600 := by
    have hc := cnt_le_all h.formed
    by_cases e : x.num = 1
    · obtain ⟨r, hr, _, h3⟩ := h.formed.root
      have := h.formed.rise.at hx
      rw [e, hr] at this
      cases this; omega
    · have := h.formed.links x hx e
      have := hc x.num
      omega
  refine ⟨⟨by show _ ≤ x.num; omega, by show x.num ≤ _; omega⟩, ⟨by show _ ≤ x.links; omega, by show x.links ≤ _; omega⟩, by omega⟩
theorem nde_eql (r : Nde) (w : World) : (binOp .eql 38 (ndeV r) (ndeV r)).run Tryz.prog w = .ok (.bool true) w := by
  unfold ndeV
  rw [run_eql_struct, run_equalIn_agg _ _ _ _ _ (by kernel_rfl) (by kernel_rfl)]
  have hu := Tryz.underlying38
  have hf : (Tryz.prog.fieldsOf 38).toList = (Tryz.prog.fieldsOf 38).toList := rfl
  conv at hf => rhs; unfold Program.fieldsOf; rw [hu]
  simp only at hf
  rw [hf]
  clear hf hu
  have u3 := Tryz.underlying3
  have u4 := Tryz.underlying4
  have u9 := Tryz.underlying9
  simp [go_sem, Op.eqFields, u3, u4, u9, Result.andThen]
theorem nde_guard2 (r q : Nde) (w : World) (a b : Operand) : (eqGuard .eql 38 a b (ndeV r) (ndeV q)).run Tryz.prog w = .ok () w := run_eqGuard_agg w _ _ _ _ _ _ (by kernel_rfl)
end
end Go.Proofs.YtfokdmijkniomaaGreatDoor

