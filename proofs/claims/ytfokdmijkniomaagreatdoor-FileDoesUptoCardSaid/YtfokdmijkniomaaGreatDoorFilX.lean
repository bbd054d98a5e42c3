/-
  A tree: met, what is asked of its directories.
-/
import Derived.Test.YtfokdmijkniomaaGreatDoorFilO
namespace Go.Proofs.YtfokdmijkniomaaGreatDoor
open Go.RowKit Go Go.Maps

/-! ### What is left of nodes -/
def leftN (left : Lit → Bool) (T : List Nod) : List Nod := T.filter fun x => left (litI x.num)
theorem leftN_none {left : Lit → Bool} (h : ∀ kl, left kl = false) (T : List Nod) : leftN left T = [] := by
  unfold leftN
  exact List.filter_eq_nil_iff.2 fun e _ => by simp [h]
theorem leftN_all {w : World} {c m : Nat} {P : Int → Nat} {G : Int → Option Nat} {T : List Nod} {D : DataW Unit} (h : TreeAt c m P G T D w) : leftN (Maps.has D) T = T := by
  unfold leftN
  refine List.filter_eq_self.2 fun e he => ?_
  rw [h.has, h.rise.at he]; rfl
theorem leftN_next {left : Lit → Bool} {x : Nod} : ∀ {T : List Nod}, RiseN T → x ∈ T → left (litI x.num) = true → (leftN left T).Perm (x :: leftN (fun z => left z && !z.sameKey (litI x.num)) T)
  | [], _, h, _ => by cases h
  | y :: T, hr, he, hl => by
    obtain ⟨h1, h2⟩ := List.pairwise_cons.1 hr
    unfold leftN
    rcases List.mem_cons.1 he with rfl | he2
    · rw [List.filter_cons_of_pos (by exact hl), List.filter_cons_of_neg (by simp [litI_self])]
      have : T.filter (fun z => left (litI z.num) && !(litI z.num).sameKey (litI x.num)) = T.filter (fun z => left (litI z.num)) := by
        refine List.filter_congr fun z hz => ?_
        have hne : z.num ≠ x.num := fun c => by have := h1 z hz; rw [c, ordI.irr] at this; cases this
        rw [litI_other hne]; simp
      rw [this]
    · have hne : y.num ≠ x.num := fun c => by have := h1 x he2; rw [c, ordI.irr] at this; cases this
      have ih := leftN_next (left := left) h2 he2 hl
      unfold leftN at ih
      by_cases hx : left (litI y.num) = true
      · rw [List.filter_cons_of_pos (by exact hx), List.filter_cons_of_pos (by simp [hx, litI_other hne])]
        exact (ih.cons y).trans (List.Perm.swap x y _)
      · rw [List.filter_cons_of_neg (by exact hx), List.filter_cons_of_neg (by simp [hx])]
        exact ih
def oneD (x : Nod) : Nat := if x.dir = true then 1 else 0
theorem dirs_sum (T : List Nod) : sumK oneD T = (allDirs T).length := by
  unfold allDirs
  rw [List.length_map]
  induction T with
  | nil => rfl
  | cons x l ih =>
    rw [sum_cons, ih, List.filter_cons]
    unfold oneD
    split
    · rw [List.length_cons]; omega
    · omega
theorem w64_less {s : Int} (h1 : -100000000 ≤ s) (h2 : s ≤ 100000000) : RowKit.wrap64 (s - 1) = s - 1 := by
  simp [RowKit.wrap64]; omega
/-- an answer that tells whether something holds -/
def Asks (p : Prop) (e : Ending) : Prop := ∃ b : Bool, e = .returned (.bool b) ∧ (b = true ↔ p)
theorem Asks.yes {p : Prop} (h : p) {e : Ending} (he : e = .returned (.bool true)) : Asks p e := ⟨true, he, fun _ => h, fun _ => rfl⟩
theorem Asks.no {p : Prop} (h : ¬ p) {e : Ending} (he : e = .returned (.bool false)) : Asks p e := ⟨false, he, (fun h2 => by cases h2), fun h2 => absurd h2 h⟩
section
variable {w w' w2 : World} {c m : Nat} {P : Int → Nat} {G : Int → Option Nat} {T : List Nod} {D : DataW Unit}
set_option maxRecDepth 100000 in
set_option maxHeartbeats 4000000 in
theorem met_any (h : TreeAt c m P G T D w) (hF : Formed T) :
    Calls Tryz.prog 80 #[.pointer (some ⟨c, 0, none⟩)] w fun r w' => Asks (Good T) r ∧ Below w.heap.size w w' := by
  obtain ⟨r, hr, hd, _⟩ := hF.root
  have c0 := TObj.c0 h.obj
  have hlo := h.lookup_some (k := 1) ⟨by decide, by decide⟩ hr
  have C := below_any hF 60 hr (q := []) rfl hF.fits60 (by omega) w h
  have hgood := good_iff hF
  have hA1 := sub_len (hF.dirs_nodup 60) fun j hj => (allDirs_mem hF.rise).2 (dirsN_mem hF.riseAll hj).choose_spec.2
  have hA2 := allDirs_len T
  have hA3 := hF.len
  have hA4 := deep_le hF.riseAll hF.fits60
  have hds := dirs_sum T
  obtain ⟨A, hA⟩ : ∃ A, (dirsN T 60 1).length = A := ⟨_, rfl⟩
  obtain ⟨B, hB⟩ : ∃ B, deepF T 60 1 = B := ⟨_, rfl⟩
  rw [hA, hB] at C hgood
  rw [hA] at hA1
  rw [hB] at hA4
  rw [← hds] at hgood hA1 hA2
  have HG := Lib.hid hgood
  have HH := Lib.hid h
  have HAB := Lib.hid (show A ≤ 60 ∧ B ≤ 60 ∧ sumK oneD T ≤ 60 by omega)
  clear hgood h hF hr hA hB hA1 hA2 hA3 hA4 hds
  go_enter Tryz.func80, Tryz.ntmps80
  go_wp2_with fail
  refine C.mono ?_
  rintro e w1 ⟨rfl, hB1⟩
  have h1 := HH.out.later hB1
  have c0 := TObj.c0 h1.obj
  have hmap := h1.map
  have HB1 := Lib.hid hB1
  have HH1 := Lib.hid h1
  clear C hB1 h1 hlo
  go_wp2_with (at_range; refine wpList_range_own _ rfl _ 51 rfl 3 55 lawI Tryz.underlying51 _ m T.length D rfl hmap ?_; intro w0 hrg0 hg0 hs0)
  try go_frame
  have hB0 : Below w1.heap.size w1 w0 := ⟨hg0.os, hg0.tape, hg0.output, hg0.size, fun k hk => hg0.block k hk (by simp)⟩
  have HB0 := Lib.hid (HB1.out.trans (hB0.mono HB1.out.size))
  have HRG := Lib.hid hrg0
  have HS0 := Lib.hid HB1.out.size
  clear hrg0 hg0 hs0 hB0 hmap c0
  go_loopw [3] (fun a wr => ∃ (s : Int) (left : Lit → Bool) (cnt : Nat), a = .int .i64 s ∧ Hid (wr.ranges Tryz.prog 3 ptrElem m w1.heap.size T.length D left cnt) ∧
      Hid (s - (sumK oneD (leftN left T) : Nat) = (A : Int) - (sumK oneD T : Nat)) ∧ Hid (sumK oneD (leftN left T) ≤ 60) ∧ Hid (Below w.heap.size w wr)) (fun _ wr => wr.rangeLeft m w1.heap.size)
  case atStart =>
    exact ⟨A, Maps.has D, Maps.size D, rfl, HRG, Lib.hid (by rw [leftN_all HH1.out]), Lib.hid (by rw [leftN_all HH1.out]; exact HAB.out.2.2), HB0⟩
  case round =>
    obtain ⟨s, left, cnt, rfl, HRN, HS, HT, HB⟩ := hrel
    have hrg := HRN.out
    clear HRG
    go_wp2_with (at_next; refine wpList_next_nodes _ rfl _ rfl m w1.heap.size T.length D P T HH.out.look _ _ rfl hrg ?_ ?_)
    · intro hc0 hl0
      have hs := HS.out
      rw [leftN_none hl0] at hs
      have HS1 := Lib.hid (show s = (A : Int) - (sumK oneD T : Nat) by simpa [sumK] using hs)
      clear hrg hs
      by_cases hz : s = 0
      · have hzb : (s == 0) = true := by simp [hz]
        by_cases hb : (B : Int) ≤ 8
        · go_wp2
          go_ret
          refine ⟨.yes (HG.out.2 ⟨?_, ?_⟩) rfl, HB.out⟩
          · have := HS1.out; omega
          · omega
        · go_wp2
          go_ret
          exact ⟨.no (fun h => absurd (HG.out.1 h).2 (by omega)) rfl, HB.out⟩
      · have hzb : (s == 0) = false := by simp [hz]
        go_wp2
        go_ret
        exact ⟨.no (fun h => absurd (HG.out.1 h).1 (by have := HS1.out; omega)) rfl, HB.out⟩
    · intro x w2 cnt1 hx hlf hrg1 hlt hg1 hsz1 hen
      have hB2 : Below w.heap.size w w2 := ⟨hg1.os.trans HB.out.os, hg1.tape.trans HB.out.tape, hg1.output.trans HB.out.output, by rw [hsz1]; exact HB.out.size, fun i hi => (hg1.block i (Nat.lt_of_lt_of_le hi HB.out.size) (by have := HS0.out; simp; omega)).trans (HB.out.block i hi)⟩
      have h2 := HH.out.later hB2
      have d1 := NObj.c1 (h2.node _ x hx).obj
      have hperm := leftN_next HH.out.rise (at_mem hx).1 hlf
      have hs := HS.out
      have ht := HT.out
      rw [sum_perm hperm, sum_cons] at hs ht
      have HRG1 := Lib.hid hrg1
      have HB2 := Lib.hid hB2
      have HLQ := Lib.hid (show w2.rangeLeft m w1.heap.size < wr.rangeLeft m w1.heap.size by rw [hrg1.left_eq, hrg.left_eq]; exact hlt)
      have hsb : -100000000 ≤ s ∧ s ≤ 100000000 := by have := HAB.out; omega
      have hwr := w64_less hsb.1 hsb.2
      unfold oneD at hs ht
      cases hd : x.dir with
      | true =>
        rw [hd] at d1 hs ht
        simp only [if_true] at hs ht
        have HS2 := Lib.hid (show s - 1 - (sumK oneD (leftN (fun z => left z && !z.sameKey (litI x.num)) T) : Nat) = (A : Int) - (sumK oneD T : Nat) by unfold oneD; omega)
        have HT2 := Lib.hid (show sumK oneD (leftN (fun z => left z && !z.sameKey (litI x.num)) T) ≤ 60 by unfold oneD; omega)
        clear hrg hrg1 hlt hg1 hsz1 h2 hx hlf hperm hs ht hB2
        go_wp2
        go_roundw
        case rel => exact ⟨s - 1, _, _, rfl, HRG1, HS2, HT2, HB2⟩
        case measure => exact HLQ.out
      | false =>
        rw [hd] at d1 hs ht
        simp only [Bool.false_eq_true, if_false] at hs ht
        have HS2 := Lib.hid (show s - (sumK oneD (leftN (fun z => left z && !z.sameKey (litI x.num)) T) : Nat) = (A : Int) - (sumK oneD T : Nat) by unfold oneD; omega)
        have HT2 := Lib.hid (show sumK oneD (leftN (fun z => left z && !z.sameKey (litI x.num)) T) ≤ 60 by unfold oneD; omega)
        clear hrg hrg1 hlt hg1 hsz1 h2 hx hlf hperm hs ht hB2
        go_wp2
        go_roundw
        case rel => exact ⟨s, _, _, rfl, HRG1, HS2, HT2, HB2⟩
        case measure => exact HLQ.out
end
end Go.Proofs.YtfokdmijkniomaaGreatDoor

