/-
  All names of one file tell the same bytes, whichever of them it was written by, and it is there as long as one is: for every list of texts and every order.
  Conditions: none besides the row's own.
-/
import Derived.Test.YtfncoojpommfcaaGreatDoorFilFy
import Derived.Test.YtfncoojpommfcaaGreatDoorKS
import Derived.Test.YtfncoojpommfcaaGreatDoorKitI
import Derived.OwnWalk
namespace Go.Proofs.YtfncoojpommfcaaGreatDoor.flinks
open Go.Proofs.YtfncoojpommfcaaGreatDoor
open Go.ChangeShapes Go.WideShapes Go.ChangeAt Go.RowKit Go

def nN : Nat → ByteArray
  | 0 => ⟨#[110, 48]⟩ | 1 => ⟨#[110, 49]⟩ | 2 => ⟨#[110, 50]⟩ | 3 => ⟨#[110, 51]⟩ | 4 => ⟨#[110, 52]⟩ | _ => ⟨#[110, 53]⟩
def pN : Nat → ByteArray
  | 0 => ⟨#[47, 110, 48]⟩ | 1 => ⟨#[47, 110, 49]⟩ | 2 => ⟨#[47, 110, 50]⟩ | 3 => ⟨#[47, 110, 51]⟩ | 4 => ⟨#[47, 110, 52]⟩ | _ => ⟨#[47, 110, 53]⟩
theorem below6 {i : Nat} (h : i < 6) : i = 0 ∨ i = 1 ∨ i = 2 ∨ i = 3 ∨ i = 4 ∨ i = 5 := by omega
theorem pN_small (i : Nat) : (pN i).size ≤ 1000 := by unfold pN; split <;> decide
theorem path6 {i : Nat} (h : i < 6) : IsPath (pN i) [nN i] := by
  rcases below6 h with rfl | rfl | rfl | rfl | rfl | rfl <;> exact ⟨by unfold NameOk nN; decide, by decide, .inr ⟨by simp, rfl⟩⟩
/-- a root, and a file with some of six names in it -/
def lnkT (lo hi : Nat) (h : ByteArray) : List Nod := ⟨1, true, 1, ⟨#[]⟩, (List.range' lo (hi - lo)).map fun i => ⟨nN i, 2⟩⟩ :: if lo < hi then [⟨2, false, (hi : Int) - lo, h, []⟩] else []
theorem lk_first : doV newT ⟨0, pN 0, ⟨#[]⟩, 0, ⟨#[]⟩⟩ = (lnkT 0 1 ⟨#[]⟩, 0) := by rw [doV_make (path6 (by omega))]; kernel_rfl
theorem lk_link {i : Nat} (h1 : 1 ≤ i) (h6 : i < 6) : doV (lnkT 0 i ⟨#[]⟩) ⟨4, pN (i - 1), pN i, 0, ⟨#[]⟩⟩ = (lnkT 0 (i + 1) ⟨#[]⟩, 0) := by
  rw [doV_link (path6 (by omega)) (path6 h6)]
  rcases below6 h6 with rfl | rfl | rfl | rfl | rfl | rfl
  · omega
  all_goals kernel_rfl
theorem lk_file {k : Nat} (h6 : k < 6) (h : ByteArray) : fileE (lnkT 0 6 h) [nN k] = .ok ⟨2, false, 6, h, []⟩ := by
  rcases below6 h6 with rfl | rfl | rfl | rfl | rfl | rfl <;> kernel_rfl
theorem lk_find {i : Nat} (h6 : i < 6) (h : ByteArray) : findE (lnkT i 6 h) [nN i] = .ok ⟨2, false, 6 - (i : Int), h, []⟩ := by
  rcases below6 h6 with rfl | rfl | rfl | rfl | rfl | rfl <;> kernel_rfl
theorem lk_write (h : ByteArray) {k : Nat} (hk : k < 6) {s : ByteArray} (hs : s.size ≤ 500) (hb : h.size + s.size ≤ 16384) : doV (lnkT 0 6 h) ⟨2, pN k, ⟨#[]⟩, h.size, s⟩ = (lnkT 0 6 (wrote h h.size s), 0) := by
  rw [doV_write (path6 hk) (by omega) (by omega) (by omega)]
  unfold writeV
  rw [lk_file hk]
  simp only
  rw [if_neg (by omega)]
  rfl
theorem lk_readV (h : ByteArray) {k : Nat} (hk : k < 6) (hs : h.size ≤ 1048576) : readV (lnkT 0 6 h) (pN k) 0 1048576 = (h, 0) := by
  rw [readV_yes (path6 hk) (lk_file hk h) (by decide) (by decide)]
  rw [show ((0 : Int).toNat) = 0 from rfl, show ((1048576 : Int).toNat) = 1048576 from rfl]
  unfold piece
  rw [List.drop_zero, List.take_of_length_le (by rw [Array.length_toList]; exact hs), bs_self]
theorem lk_get {i : Nat} (h6 : i < 6) (h : ByteArray) : getV (lnkT i 6 h) (pN i) = (⟨2, false, 6 - (i : Int), h⟩, 0) := by
  rw [getV_yes (path6 h6) (lk_find h6 h)]; rfl
theorem lk_remove {i : Nat} (h6 : i < 6) (h : ByteArray) : doV (lnkT i 6 h) ⟨6, pN i, ⟨#[]⟩, 0, ⟨#[]⟩⟩ = (lnkT (i + 1) 6 h, 0) := by
  rw [doV_remove (path6 h6)]
  rcases below6 h6 with rfl | rfl | rfl | rfl | rfl | rfl <;> kernel_rfl
theorem lk_good1 : ∀ {i : Nat}, 1 ≤ i → i ≤ 6 → Good (lnkT 0 i ⟨#[]⟩)
  | 0, h, _ => by omega
  | 1, _, _ => by have := good_new.does ⟨0, pN 0, ⟨#[]⟩, 0, ⟨#[]⟩⟩; rw [lk_first] at this; exact this
  | i + 2, _, h => by
    have := (lk_good1 (i := i + 1) (by omega) (by omega)).does ⟨4, pN (i + 1 - 1), pN (i + 1), 0, ⟨#[]⟩⟩
    rw [lk_link (by omega) (by omega)] at this
    exact this
theorem lk_good6 {h : ByteArray} (hs : h.size ≤ 16384) : Good (lnkT 0 6 h) := (lk_good1 (i := 6) (by omega) (by omega)).data (x := ⟨2, false, 6, ⟨#[]⟩, []⟩) rfl rfl hs
theorem lk_good {h : ByteArray} (hs : h.size ≤ 16384) : ∀ {i : Nat}, i ≤ 6 → Good (lnkT i 6 h)
  | 0, _ => lk_good6 hs
  | i + 1, hi => by
    have := (lk_good hs (i := i) (by omega)).does ⟨6, pN i, ⟨#[]⟩, 0, ⟨#[]⟩⟩
    rw [lk_remove (by omega)] at this
    exact this
theorem app_wrote (h s : ByteArray) : h ++ s = wrote h h.size s := by
  refine ba_ext ?_
  unfold wrote
  rw [bs_list, ByteArray.data_append, Array.toList_append, List.take_of_length_le (by rw [Array.length_toList]; exact Nat.le_refl _), List.drop_of_length_le (by rw [Array.length_toList]; show h.size ≤ _; omega), List.append_nil]
theorem cmd_in {k a : Int} {s u d : ByteArray} (hk : 0 ≤ k ∧ k ≤ 10) (hs : s.size ≤ 1000) (hu : u.size ≤ 1000) (ha : 0 ≤ a ∧ a ≤ 16384) (hd : d.size ≤ 512) : CmdIn ⟨k, s, u, a, d⟩ :=
  ⟨⟨by show _ ≤ k; omega, by show k ≤ _; omega⟩, ⟨by show _ ≤ a; omega, by show a ≤ _; omega⟩, by show s.size ≤ _; omega, by show u.size ≤ _; omega, by show d.size ≤ _; omega⟩
/-- the six names -/
def namesObj : Obj := .cells #[.string (pN 0), .string (pN 1), .string (pN 2), .string (pN 3), .string (pN 4), .string (pN 5)] 9
theorem lk_cell {w : World} {bn i : Nat} (h : w.heap[bn]? = some namesObj) (hi : i < 6) : w.cell? ⟨bn, i, none⟩ = some (.string (pN i)) := by
  unfold namesObj at h
  rcases below6 hi with rfl | rfl | rfl | rfl | rfl | rfl <;> simp [World.cell?, h]
/-- a tree of the call's own, and the row of the six names beside it -/
def LkAt (w0 w : World) (c : Nat) (T : List Nod) (bn : Nat) : Prop := ∃ F, TreeIs w0.heap.size F c T w ∧ Below w0.heap.size w0 w ∧ ¬ F bn ∧ w.heap[bn]? = some namesObj
section
variable {w0 w w' : World} {c bn : Nat} {T : List Nod}
theorem LkAt.fx (h : LkAt w0 w c T bn) : FxAt w0 w c T := by
  obtain ⟨F, h1, h2, _⟩ := h
  exact ⟨F, h1, h2⟩
theorem LkAt.later (h : LkAt w0 w c T bn) (hB : Below w.heap.size w w') : LkAt w0 w' c T bn := by
  obtain ⟨F, h1, h2, h3, h4⟩ := h
  exact ⟨F, h1.later hB, h2.trans (hB.mono h2.size), h3, keeps_of hB h4⟩
theorem LkAt.of (h : FxAt w0 w c T) : LkAt w0 (w.alloc namesObj) c T w.heap.size := by
  obtain ⟨F, h1, h2⟩ := h
  have hB : Below w.heap.size w (w.alloc namesObj) := (Below.refl _ w).alloc (Nat.le_refl _) _
  exact ⟨F, h1.later hB, h2.trans (hB.mono h2.size), fun f => by have := h1.lt f; omega, heap_alloc_new w _⟩
theorem lk_do (h : LkAt w0 w c T bn) (hG : Good T) (d : Cmd) (hd : CmdIn d) (hl : d.path.size + d.dest.size ≤ 100000000) (hg : GE w0) :
    Calls Tryz.prog 14 #[.pointer (some ⟨c, 0, none⟩), cmdV d] w fun e w' => e = .returned (.int .i64 (doV T d).2) ∧ LkAt w0 w' c (doV T d).1 bn := by
  obtain ⟨F, h1, h2, h3, h4⟩ := h
  refine (do_short h1 hG d hd hl (hg.below h2)).mono fun e w' ⟨he, F', g1, g2, g3⟩ => ⟨he, F', g1, ?_, fun f => ?_, g2.keep h4 h3⟩
  · exact ((Stir.of_below (F := fun _ => False) h2).trans g2 (fun i hi => .inr (h1.low hi))).below (fun _ f => f.elim) (Nat.le_refl _)
  · rcases g3 bn f with f | f
    · exact h3 f
    · have := lt_of_heap h4; omega
theorem lk_read (h : LkAt w0 w c T bn) (hG : Good T) {s : ByteArray} (hs : s.size ≤ 281474976710656) (a n : Int) (ha : IntOk a) (hn : IntOk n) :
    Calls Tryz.prog 20 #[.pointer (some ⟨c, 0, none⟩), .string s, .int .i64 a, .int .i64 n] w fun e w' => e = .returned (.tuple #[.string (readV T s a n).1, .int .i64 (readV T s a n).2]) ∧ Below w.heap.size w w' :=
  fread h.fx hG hs a n ha hn
end
set_option maxRecDepth 100000 in
set_option maxHeartbeats 16000000 in
theorem walk (va : Value) (rs : List ByteArray) (vb : Value) (os : List Int) (w : World) (hOa : StrsAt w va rs) (hza : rs.length ≤ 140737488351232 ∧ ∀ s ∈ rs, s.size ≤ 140737488351232) (hOb : IntsAt w vb os) (_ : os.length ≤ 140737488351232 ∧ ∀ z ∈ os, IntOk z) (hg : GE w) :
    Calls Tryz.prog 7 #[va, vb] w fun e w' => e = .returned (.bool true) ∧ Below w.heap.size w w' := by
  obtain ⟨aa, capa, rfl, ha⟩ := hOa
  obtain ⟨ab, capb, rfl, hob⟩ := hOb
  have HA := Lib.hid ha
  have HOB := Lib.hid hob
  have HZ := Lib.hid hza
  have HG := Lib.hid hg
  have hza1 := hza.1
  have C := fnew w
  clear ha hza hg hob
  go_enter Tryz.func7, Tryz.ntmps7
  go_wp2_with fail
  refine C.mono ?_
  rintro e w1 ⟨c, rfl, hx1⟩
  have C1 := fdo hx1 good_new ⟨0, pN 0, ⟨#[]⟩, 0, ⟨#[]⟩⟩ (cmd_in (by decide) (pN_small 0) (by decide) (by decide) (by decide)) (by decide) HG.out
  rw [lk_first] at C1
  unfold cmdV at C1
  simp only [pN] at C1
  clear C hx1
  go_wp2_with fail
  refine C1.mono ?_
  rintro e w2 ⟨rfl, hx2⟩
  obtain ⟨w3, hw3⟩ : ∃ w3, w2.alloc namesObj = w3 := ⟨_, rfl⟩
  have HX3 := Lib.hid (show LkAt w w3 c (lnkT 0 1 ⟨#[]⟩) w2.heap.size by rw [← hw3]; exact .of hx2)
  unfold namesObj at hw3
  simp only [pN] at hw3
  clear C1 hx2
  go_wp2
  generalize w2.heap.size = bn at *
  clear hw3
  go_loopw [7] (fun i wr => ∃ j : Nat, 1 ≤ j ∧ j ≤ 6 ∧ i = .int .i64 j ∧ Hid (LkAt w wr c (lnkT 0 j ⟨#[]⟩) bn)) (fun i _ => 6 - (intOf i).toNat)
  case atStart => exact ⟨1, by omega, by omega, rfl, HX3⟩
  case round =>
    obtain ⟨j, hj1, hj6, rfl, HX⟩ := hrel
    clear HX3
    by_cases hlt : j < 6
    · have S0 : Stir (fun _ => False) wr wr.drew := (Stir.refl _ wr).drew
      have hxd : LkAt w wr.drew c (lnkT 0 j ⟨#[]⟩) bn := HX.out.later (S0.below (fun _ f => f.elim) (Nat.le_refl _))
      have CL := lk_do hxd (lk_good1 hj1 hj6) ⟨4, pN (j - 1), pN j, 0, ⟨#[]⟩⟩ (cmd_in (by decide) (pN_small _) (pN_small _) (by decide) (by decide)) (by have := pN_small (j - 1); have := pN_small j; show (pN (j - 1)).size + (pN j).size ≤ _; omega) HG.out
      rw [lk_link hj1 hlt] at CL
      unfold cmdV at CL
      simp only at CL
      obtain ⟨F, _, _, _, hob1⟩ := HX.out
      have cA := lk_cell hob1 (show j - 1 < 6 by omega)
      have cB := lk_cell hob1 hlt
      obtain ⟨F2, _, _, _, hob2⟩ := id hxd
      have dA := lk_cell hob2 (show j - 1 < 6 by omega)
      have dB := lk_cell hob2 hlt
      clear hxd hob1 hob2
      rcases below6 hlt with rfl | rfl | rfl | rfl | rfl | rfl
      · omega
      all_goals (
        simp only [Nat.reduceSub, Nat.reduceAdd] at cA cB dA dB CL
        go_wp2
        go_region_with (go_at_call 14; refine CL.mono ?_; rintro e w4 ⟨rfl, hx4⟩; have HX4 := Lib.hid hx4; clear hx4)
        all_goals (
          go_wp2
          go_roundw
          case rel => exact ⟨_, by omega, by omega, by rfl, HX4⟩
          case measure => simp [intOf]))
    · obtain rfl : j = 6 := by omega
      go_wp2
      go_loopw [8, 9] (fun t i wr => ∃ (j : Nat) (h : ByteArray), j ≤ rs.length ∧ j ≤ 20 ∧ h.size ≤ 500 * j ∧ i = .int .i64 j ∧ t = .string h ∧ Hid (LkAt w wr c (lnkT 0 6 h) bn)) (fun _ i _ => rs.length - (intOf i).toNat)
      case atStart => exact ⟨0, ⟨#[]⟩, Nat.zero_le _, by omega, by decide, rfl, rfl, HX⟩
      case round =>
        clear HX
        obtain ⟨j, h, hj, hj20, hh, rfl, rfl, HX⟩ := hrel
        by_cases hlt : j < rs.length ∧ j < 20
        · obtain ⟨hlt1, hlt2⟩ := hlt
          obtain ⟨bb, off, rfl, hb, hc⟩ := HA.out (by rintro rfl; simp at hlt1)
          have hji : (j : Int) < (rs.length : Int) := by omega
          have hj2 : (j : Int) < 20 := by omega
          have hcw : wr.cell? ⟨bb, off + j, none⟩ = some (.string rs[j]) := (HX.out.fx.below.cell (p := ⟨bb, off + j, none⟩) hb).trans (hc j hlt1)
          have hRs := HZ.out.2 rs[j] (List.getElem_mem hlt1)
          generalize rs[j] = R at *
          go_wp2
          go_quiet (fail)
          have hS5 : (R.extract 0 (min (R.size : Int) 500).toNat).size ≤ 500 := by rw [ByteArray.size_extract]; omega
          generalize R.extract 0 (min (R.size : Int) 500).toNat = S at *
          obtain ⟨wq, hwq⟩ : ∃ wq, wr.drewN nq = wq := ⟨_, rfl⟩
          replace HX : Hid (LkAt w wq c (lnkT 0 6 h) bn) := Lib.hid (HX.out.later (by rw [← hwq]; exact below_drewN (Below.refl _ wr) nq))
          rw [hwq]
          clear hwq hb hc hcw hRs
          obtain ⟨k0, hk0⟩ : ∃ k : Nat, k = j % 6 := ⟨_, rfl⟩
          have hm0 : (j : Int) % 6 = (k0 : Int) := by rw [hk0]; omega
          have hm1 : (j : Int).tmod 6 = (k0 : Int) := by rw [Int.tmod_eq_emod_of_nonneg (by omega)]; exact hm0
          have hk6 : k0 < 6 := by rw [hk0]; exact Nat.mod_lt _ (by omega)
          clear hk0
          by_cases ho : j < os.length
          · obtain ⟨bo, oo, rfl, hbo, hco⟩ := HOB.out (by rintro rfl; simp at ho)
            have hoi : (j : Int) < (os.length : Int) := by omega
            have hcz : wq.cell? ⟨bo, oo + j, none⟩ = some (.int .i64 os[j]) := (HX.out.fx.below.cell (p := ⟨bo, oo + j, none⟩) hbo).trans (hco j ho)
            generalize os[j] = O at *
            obtain ⟨z, hz, _⟩ := and_to 65535 (by omega) O
            have hz' : bits .and .i64 O 65535 = (z : Int) := hz
            obtain ⟨K, hK0⟩ : ∃ k : Nat, k = z % 6 := ⟨_, rfl⟩
            have hn0 : (z : Int) % 6 = (K : Int) := by rw [hK0]; omega
            have hn1 : (z : Int).tmod 6 = (K : Int) := by rw [Int.tmod_eq_emod_of_nonneg (by omega)]; exact hn0
            have hK : K < 6 := by rw [hK0]; exact Nat.mod_lt _ (by omega)
            clear hK0 hz hbo hco
            have hcK := lk_cell HX.out.choose_spec.2.2.2 hK
            have hcd := hcK
            have CW := lk_do HX.out (lk_good6 (h := h) (by omega)) ⟨2, pN K, ⟨#[]⟩, h.size, S⟩ (cmd_in (by decide) (pN_small K) (by decide) (by omega) (by omega)) (by have := pN_small K; show (pN K).size + (⟨#[]⟩ : ByteArray).size ≤ _; have e : (⟨#[]⟩ : ByteArray).size = 0 := rfl; omega) HG.out
            rw [lk_write h hK hS5 (by omega)] at CW
            unfold cmdV at CW
            simp only at CW
            have hks : (K : Int) < 6 := by omega
            clear hcd
            go_wp2_with fail
            refine CW.mono ?_
            rintro e w3 ⟨rfl, hx3⟩
            have HX3 := Lib.hid hx3
            have HVS := Lib.hid (show (h ++ S).size ≤ 500 * (j + 1) by rw [ByteArray.size_append]; omega)
            rw [← app_wrote] at HX3
            obtain ⟨V, hV⟩ : ∃ V, h ++ S = V := ⟨_, rfl⟩
            rw [hV] at HX3 HVS
            have HVE := Lib.hid hV
            clear hV
            have HV1 : (V.toList == V.toList) = true := by simp
            have HV2 : (V.toList != V.toList) = false := by simp
            clear CW hx3 hcK
            go_wp2
            rw [HVE.out]
            obtain ⟨wo, hwo⟩ : ∃ x, x = wr := ⟨_, rfl⟩
            subst hwo
            go_loopw [12] (fun i wr => ∃ q : Nat, q ≤ 6 ∧ i = .int .i64 q ∧ Hid (LkAt w wr c (lnkT 0 6 V) bn)) (fun i _ => 6 - (intOf i).toNat)
            case atStart => exact ⟨0, by omega, rfl, HX3⟩
            case round =>
              obtain ⟨q, hq, rfl, HQ⟩ := hrel
              clear HX3
              by_cases hq6 : q < 6
              · have hqi : (q : Int) < 6 := by omega
                have hcq := lk_cell HQ.out.choose_spec.2.2.2 hq6
                have CR := lk_read HQ.out (lk_good6 (h := V) (by have := HVS.out; omega)) (s := pN q) (by have := pN_small q; omega) 0 1048576 ⟨by decide, by decide⟩ ⟨by decide, by decide⟩
                rw [lk_readV V hq6 (by have := HVS.out; omega)] at CR
                simp only at CR
                go_wp2_with fail
                refine CR.mono ?_
                rintro e w4 ⟨rfl, hB4⟩
                have HQ4 := Lib.hid (HQ.out.later hB4)
                clear CR hB4 hcq
                go_wp2
                go_roundw
                case rel => exact ⟨q + 1, by omega, by go_num, HQ4⟩
                case measure => simp [intOf]; omega
              · have hqi : ¬ (q : Int) < 6 := by omega
                go_wp2
                refine ⟨⟨_, _, _, ⟨j + 1, hlt1, hlt2, V, HVS.out, ?_, rfl, HQ⟩, rfl, rfl, rfl⟩, ?_⟩
                · go_num
                · simp [intOf]; omega
          · have hoi : ¬ (j : Int) < (os.length : Int) := by omega
            obtain ⟨K, hKK⟩ : ∃ K, K = k0 := ⟨_, rfl⟩
            subst hKK
            have hK := hk6
            have hcK := lk_cell HX.out.choose_spec.2.2.2 hK
            have hcd := hcK
            have CW := lk_do HX.out (lk_good6 (h := h) (by omega)) ⟨2, pN K, ⟨#[]⟩, h.size, S⟩ (cmd_in (by decide) (pN_small K) (by decide) (by omega) (by omega)) (by have := pN_small K; show (pN K).size + (⟨#[]⟩ : ByteArray).size ≤ _; have e : (⟨#[]⟩ : ByteArray).size = 0 := rfl; omega) HG.out
            rw [lk_write h hK hS5 (by omega)] at CW
            unfold cmdV at CW
            simp only at CW
            have hks : (K : Int) < 6 := by omega
            clear hcd
            go_wp2_with fail
            refine CW.mono ?_
            rintro e w3 ⟨rfl, hx3⟩
            have HX3 := Lib.hid hx3
            have HVS := Lib.hid (show (h ++ S).size ≤ 500 * (j + 1) by rw [ByteArray.size_append]; omega)
            rw [← app_wrote] at HX3
            obtain ⟨V, hV⟩ : ∃ V, h ++ S = V := ⟨_, rfl⟩
            rw [hV] at HX3 HVS
            have HVE := Lib.hid hV
            clear hV
            have HV1 : (V.toList == V.toList) = true := by simp
            have HV2 : (V.toList != V.toList) = false := by simp
            clear CW hx3 hcK
            go_wp2
            rw [HVE.out]
            obtain ⟨wo, hwo⟩ : ∃ x, x = wr := ⟨_, rfl⟩
            subst hwo
            go_loopw [12] (fun i wr => ∃ q : Nat, q ≤ 6 ∧ i = .int .i64 q ∧ Hid (LkAt w wr c (lnkT 0 6 V) bn)) (fun i _ => 6 - (intOf i).toNat)
            case atStart => exact ⟨0, by omega, rfl, HX3⟩
            case round =>
              obtain ⟨q, hq, rfl, HQ⟩ := hrel
              clear HX3
              by_cases hq6 : q < 6
              · have hqi : (q : Int) < 6 := by omega
                have hcq := lk_cell HQ.out.choose_spec.2.2.2 hq6
                have CR := lk_read HQ.out (lk_good6 (h := V) (by have := HVS.out; omega)) (s := pN q) (by have := pN_small q; omega) 0 1048576 ⟨by decide, by decide⟩ ⟨by decide, by decide⟩
                rw [lk_readV V hq6 (by have := HVS.out; omega)] at CR
                simp only at CR
                go_wp2_with fail
                refine CR.mono ?_
                rintro e w4 ⟨rfl, hB4⟩
                have HQ4 := Lib.hid (HQ.out.later hB4)
                clear CR hB4 hcq
                go_wp2
                go_roundw
                case rel => exact ⟨q + 1, by omega, by go_num, HQ4⟩
                case measure => simp [intOf]; omega
              · have hqi : ¬ (q : Int) < 6 := by omega
                go_wp2
                refine ⟨⟨_, _, _, ⟨j + 1, hlt1, hlt2, V, HVS.out, ?_, rfl, HQ⟩, rfl, rfl, rfl⟩, ?_⟩
                · go_num
                · simp [intOf]; omega
        · skip
          have hh2 : h.size ≤ 16384 := by omega
          have HH2 := Lib.hid hh2
          by_cases hj3 : j < rs.length
          · have hji : (j : Int) < (rs.length : Int) := by omega
            have hj2 : ¬ (j : Int) < 20 := by omega
            go_wp2
            go_loopw [15] (fun i wr => ∃ q : Nat, q ≤ 6 ∧ i = .int .i64 q ∧ Hid (LkAt w wr c (lnkT q 6 h) bn)) (fun i _ => 6 - (intOf i).toNat)
            case atStart => exact ⟨0, by omega, rfl, HX⟩
            case round =>
              clear HX
              obtain ⟨q, hq, rfl, HQ⟩ := hrel
              by_cases hq6 : q < 6
              · have hqi : (q : Int) < 6 := by omega
                have hcq := lk_cell HQ.out.choose_spec.2.2.2 hq6
                have CG := fget HQ.out.fx (lk_good HH2.out hq) (s := pN q) (by have := pN_small q; omega)
                rw [lk_get hq6] at CG
                unfold ndeV at CG
                simp only at CG
                go_wp2_with fail
                refine CG.mono ?_
                rintro e w7 ⟨rfl, hB7⟩
                obtain ⟨w8, hw8⟩ : ∃ w8, w7.alloc (NdeObj zeroN) = w8 := ⟨_, rfl⟩
                have hB8 : Below w7.heap.size w7 w8 := by rw [← hw8]; exact (Below.refl _ w7).alloc (Nat.le_refl _) _
                have z8 : NdeAt zeroN w7.heap.size w8 := by rw [← hw8]; exact .new _ _
                obtain ⟨u1, u2, u3, u4, ⟨e1, e2, e3, e4⟩, ⟨s1, s2, s3, s4⟩, ⟨f1, f2, f3, f4⟩, ha4, hs4⟩ := nde_store ⟨2, false, 6 - (q : Int), h⟩ z8
                have hB9 : Below w7.heap.size w7 u4 := ((Stir.of_below (F := fun _ => False) hB8).trans hs4 (fun i hi => .inr (by omega))).below (fun _ f => f.elim) (Nat.le_refl _)
                have hx9 := (HQ.out.later hB7).later hB9
                have n2 := ha4.cells.2.2.1
                have hcq2 := lk_cell hx9.choose_spec.2.2.2 hq6
                have CD := lk_do hx9 (lk_good HH2.out hq) ⟨6, pN q, ⟨#[]⟩, 0, ⟨#[]⟩⟩ (cmd_in (by decide) (pN_small q) (by decide) (by decide) (by decide)) (by have := pN_small q; show (pN q).size + (⟨#[]⟩ : ByteArray).size ≤ _; have e : (⟨#[]⟩ : ByteArray).size = 0 := rfl; omega) HG.out
                rw [lk_remove hq6] at CD
                unfold cmdV at CD
                unfold zeroN NdeObj at hw8
                unfold zeroN at s1 s2 s3 s4
                simp only at hw8 s1 s2 s3 s4 e1 e2 e3 e4 CD n2
                have hwr : RowKit.wrap64 (6 - (q : Int)) = 6 - (q : Int) := by simp [RowKit.wrap64]; omega
                have hne : ((6 - (q : Int)) != (6 - (q : Int))) = false := by simp
                clear CG hB7 hB8 z8 ha4 hs4 hB9 hx9
                go_wp2_with fail
                refine CD.mono ?_
                rintro e w10 ⟨rfl, hx10⟩
                have HX10 := Lib.hid hx10
                clear CD hx10 hcq hcq2 n2 e1 e2 e3 e4 s1 s2 s3 s4 f1 f2 f3 f4
                go_wp2
                go_roundw
                case rel => exact ⟨q + 1, by omega, by go_num, HX10⟩
                case measure => simp [intOf]; omega
              · have hqi : ¬ (q : Int) < 6 := by omega
                obtain rfl : q = 6 := by omega
                have CN := fnodes HQ.out.fx (lk_good HH2.out hq)
                go_wp2_with fail
                refine CN.mono ?_
                rintro e w7 ⟨v, rfl, hl7, hB7⟩
                obtain ⟨av, cv, rfl, _⟩ := hl7
                have hlen : (tolds (lnkT 6 6 h)).length = 1 := by rw [tolds_len]; rfl
                rw [hlen]
                have hx7 := HQ.out.later hB7
                have CF := fixed_any w7 (HG.out.below hx7.fx.below)
                have HX7 := Lib.hid hx7
                clear CN hB7 hx7
                go_wp2_with fail
                refine CF.mono ?_
                rintro e w8 ⟨rfl, hB8⟩
                have HX8 := Lib.hid (HX7.out.later hB8)
                clear CF hB8
                go_wp2
                go_ret
                exact ⟨rfl, HX8.out.fx.below⟩
          · have hji : ¬ (j : Int) < (rs.length : Int) := by omega
            go_wp2
            go_loopw [15] (fun i wr => ∃ q : Nat, q ≤ 6 ∧ i = .int .i64 q ∧ Hid (LkAt w wr c (lnkT q 6 h) bn)) (fun i _ => 6 - (intOf i).toNat)
            case atStart => exact ⟨0, by omega, rfl, HX⟩
            case round =>
              clear HX
              obtain ⟨q, hq, rfl, HQ⟩ := hrel
              by_cases hq6 : q < 6
              · have hqi : (q : Int) < 6 := by omega
                have hcq := lk_cell HQ.out.choose_spec.2.2.2 hq6
                have CG := fget HQ.out.fx (lk_good HH2.out hq) (s := pN q) (by have := pN_small q; omega)
                rw [lk_get hq6] at CG
                unfold ndeV at CG
                simp only at CG
                go_wp2_with fail
                refine CG.mono ?_
                rintro e w7 ⟨rfl, hB7⟩
                obtain ⟨w8, hw8⟩ : ∃ w8, w7.alloc (NdeObj zeroN) = w8 := ⟨_, rfl⟩
                have hB8 : Below w7.heap.size w7 w8 := by rw [← hw8]; exact (Below.refl _ w7).alloc (Nat.le_refl _) _
                have z8 : NdeAt zeroN w7.heap.size w8 := by rw [← hw8]; exact .new _ _
                obtain ⟨u1, u2, u3, u4, ⟨e1, e2, e3, e4⟩, ⟨s1, s2, s3, s4⟩, ⟨f1, f2, f3, f4⟩, ha4, hs4⟩ := nde_store ⟨2, false, 6 - (q : Int), h⟩ z8
                have hB9 : Below w7.heap.size w7 u4 := ((Stir.of_below (F := fun _ => False) hB8).trans hs4 (fun i hi => .inr (by omega))).below (fun _ f => f.elim) (Nat.le_refl _)
                have hx9 := (HQ.out.later hB7).later hB9
                have n2 := ha4.cells.2.2.1
                have hcq2 := lk_cell hx9.choose_spec.2.2.2 hq6
                have CD := lk_do hx9 (lk_good HH2.out hq) ⟨6, pN q, ⟨#[]⟩, 0, ⟨#[]⟩⟩ (cmd_in (by decide) (pN_small q) (by decide) (by decide) (by decide)) (by have := pN_small q; show (pN q).size + (⟨#[]⟩ : ByteArray).size ≤ _; have e : (⟨#[]⟩ : ByteArray).size = 0 := rfl; omega) HG.out
                rw [lk_remove hq6] at CD
                unfold cmdV at CD
                unfold zeroN NdeObj at hw8
                unfold zeroN at s1 s2 s3 s4
                simp only at hw8 s1 s2 s3 s4 e1 e2 e3 e4 CD n2
                have hwr : RowKit.wrap64 (6 - (q : Int)) = 6 - (q : Int) := by simp [RowKit.wrap64]; omega
                have hne : ((6 - (q : Int)) != (6 - (q : Int))) = false := by simp
                clear CG hB7 hB8 z8 ha4 hs4 hB9 hx9
                go_wp2_with fail
                refine CD.mono ?_
                rintro e w10 ⟨rfl, hx10⟩
                have HX10 := Lib.hid hx10
                clear CD hx10 hcq hcq2 n2 e1 e2 e3 e4 s1 s2 s3 s4 f1 f2 f3 f4
                go_wp2
                go_roundw
                case rel => exact ⟨q + 1, by omega, by go_num, HX10⟩
                case measure => simp [intOf]; omega
              · have hqi : ¬ (q : Int) < 6 := by omega
                obtain rfl : q = 6 := by omega
                have CN := fnodes HQ.out.fx (lk_good HH2.out hq)
                go_wp2_with fail
                refine CN.mono ?_
                rintro e w7 ⟨v, rfl, hl7, hB7⟩
                obtain ⟨av, cv, rfl, _⟩ := hl7
                have hlen : (tolds (lnkT 6 6 h)).length = 1 := by rw [tolds_len]; rfl
                rw [hlen]
                have hx7 := HQ.out.later hB7
                have CF := fixed_any w7 (HG.out.below hx7.fx.below)
                have HX7 := Lib.hid hx7
                clear CN hB7 hx7
                go_wp2_with fail
                refine CF.mono ?_
                rintro e w8 ⟨rfl, hB8⟩
                have HX8 := Lib.hid (HX7.out.later hB8)
                clear CF hB8
                go_wp2
                go_ret
                exact ⟨rfl, HX8.out.fx.below⟩

end Go.Proofs.YtfncoojpommfcaaGreatDoor.flinks

