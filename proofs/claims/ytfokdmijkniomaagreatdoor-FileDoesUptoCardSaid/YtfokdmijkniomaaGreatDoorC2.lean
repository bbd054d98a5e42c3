/-
  CmdB / CmdC / CmdD / CmdE / CmdF.
-/
import Derived.Test.YtfokdmijkniomaaGreatDoorTN
import Derived.Test.YtfokdmijkniomaaGreatDoorKG
import Derived.Deep.RegionHeldLaw
import Derived.Laws.ResultCell
import Derived.Deep.MidRow
import Derived.Deep.Upon
import Derived.Lib.LazyBuf
namespace Go.Proofs.YtfokdmijkniomaaGreatDoor
open Go.RowKit Go

def hexT : ByteArray := ⟨#[48, 49, 50, 51, 52, 53, 54, 55, 56, 57, 97, 98, 99, 100, 101, 102]⟩
theorem hexT_at {n : Nat} (h : n < 16) : hexT[n]'(by show n < 16; exact h) = hexD n := by
  have : ∀ k : Fin 16, hexT[k.val]'(by show k.val < 16; exact k.isLt) = hexD k.val := by decide +kernel
  exact this ⟨n, h⟩
/-- which digit a byte is -/
def hexI (c : UInt8) : Int := Lib.indexByte hexT.data.toList c
theorem hexI_D {n : Nat} (h : n < 16) : hexI (hexD n) = n := by
  have : ∀ k : Fin 16, hexI (hexD k.val) = (k.val : Int) := by decide +kernel
  exact this ⟨n, h⟩
theorem hexI_of {c : UInt8} (h : 0 ≤ hexI c) : ∃ n : Nat, n < 16 ∧ c = hexD n ∧ hexI c = n := by
  have : ∀ k : Fin 256, 0 ≤ hexI (UInt8.ofNat k.val) → ∃ n : Fin 16, UInt8.ofNat k.val = hexD n.val ∧ hexI (UInt8.ofNat k.val) = (n.val : Int) := by decide +kernel
  have h2 := this ⟨c.toNat, c.toNat_lt⟩
  simp only [UInt8.ofNat_toNat] at h2
  obtain ⟨n, h3, h4⟩ := h2 h
  exact ⟨n.val, n.isLt, h3, h4⟩
theorem hex_any (c : UInt8) (w : World) : Calls Tryz.prog 136 #[.string ⟨#[48, 49, 50, 51, 52, 53, 54, 55, 56, 57, 97, 98, 99, 100, 101, 102]⟩, .int .u8 (c.toNat : Int)] w fun e w' => e = .returned (.int .i64 (hexI c)) ∧ w = w' := by
  have h := Any.strings_IndexByte Tryz.lays137 ⟨#[48, 49, 50, 51, 52, 53, 54, 55, 56, 57, 97, 98, 99, 100, 101, 102]⟩ (c.toNat : Int) w
  have e : (c.toNat : Int).toNat.toUInt8 = c := by simp
  rw [e] at h
  exact h.mono fun _ _ ⟨h1, h2⟩ => ⟨h1, h2.symm⟩
theorem hex_byte {m n : Nat} (hm : m < 16) (hn : n < 16) : ∃ b : UInt8, hexB b = [hexD m, hexD n] ∧ ((m : Int) * 16 + n).emod 256 = (b.toNat : Int) ∧ b.toNat = 16 * m + n := by
  refine ⟨UInt8.ofNat (16 * m + n), ?_, ?_, ?_⟩
  · have e : (UInt8.ofNat (16 * m + n)).toNat = 16 * m + n := by simp; omega
    unfold hexB
    rw [e, show (16 * m + n) / 16 = m by omega, show (16 * m + n) % 16 = n by omega]
  · have e : (UInt8.ofNat (16 * m + n)).toNat = 16 * m + n := by simp; omega
    rw [e]
    show ((m : Int) * 16 + n) % 256 = _
    omega
  · simp; omega

/-! ### Data as words -/
theorem take_hex {s : ByteArray} {j : Nat} (h : j < s.size) : (s.data.toList.take (j + 1)).flatMap hexB = (s.data.toList.take j).flatMap hexB ++ hexB s[j] := by
  have hl : j < s.data.toList.length := by simpa using h
  rw [List.take_succ_eq_append_getElem hl, List.flatMap_append]
  simp; rfl
set_option maxRecDepth 100000 in
set_option maxHeartbeats 4000000 in
theorem layData_any (s : ByteArray) (hs : s.size ≤ 1048576) (w : World) :
    Calls Tryz.prog 106 #[.string s] w fun e w' => e = .returned (.string (bs (hexW s.data.toList))) ∧ Below w.heap.size w w' := by
  by_cases h0 : s.size = 0
  · obtain rfl : s = ⟨#[]⟩ := ByteArray.ext (Array.eq_empty_of_size_eq_zero h0)
    clear h0
    go_enter Tryz.func106, Tryz.ntmps106
    go_wp2
    go_ret
    exact ⟨rfl, Below.refl _ _⟩
  · have hne : s.data.toList ≠ [] := fun e => h0 (by rw [← len_of, e]; rfl)
    have b0 : s.toList.isEmpty = false := by rw [toList_eq]; cases h : s.data.toList with | nil => exact absurd h hne | cons _ _ => rfl
    have HW := Lib.hid (show hexW s.data.toList = s.data.toList.flatMap hexB by simp [hexW, hne])
    obtain ⟨i0, hi, hz0, hz1, hz2⟩ := info_parts info5
    clear hne
    go_enter Tryz.func106, Tryz.ntmps106
    go_wp2
    go_loopw [3, 9] (fun v i wr => ∃ j : Nat, j ≤ s.size ∧ i = .int .i64 j ∧ wr.ownsRow w.heap.size 5 1 v (2 * j) (u8s ((s.data.toList.take j).flatMap hexB)) ∧ Below w.heap.size w wr) (fun _ i _ => s.size - (intOf i).toNat)
    case atStart => exact ⟨0, Nat.zero_le _, rfl, World.ownsRow_nil _ _ _ _, Below.refl _ _⟩
    case round =>
      obtain ⟨j, hj, rfl, hrow, hB⟩ := hrel
      by_cases hlt : j < s.size
      · have hji : (j : Int) < (s.size : Int) := by omega
        have HT := Lib.hid (take_hex hlt)
        have hb := s[j].toNat_lt
        obtain ⟨q, hq⟩ : ∃ q, s[j].toNat / 16 = q := ⟨_, rfl⟩
        obtain ⟨r, hr⟩ : ∃ r, s[j].toNat % 16 = r := ⟨_, rfl⟩
        have e1 : ((s[j].toNat : Nat) : Int) / 16 = (q : Int) := by omega
        have e2 : ((s[j].toNat : Nat) : Int) % 16 = (r : Int) := by omega
        have hq1 : (q : Int) < 16 := by omega
        have hr1 : (r : Int) < 16 := by omega
        have HX := Lib.hid (show hexB s[j] = [hexD q, hexD r] by unfold hexB; rw [hq, hr])
        have x1 : ∀ h, (⟨#[48, 49, 50, 51, 52, 53, 54, 55, 56, 57, 97, 98, 99, 100, 101, 102]⟩ : ByteArray)[q]'h = hexD q := fun _ => hexT_at (by omega)
        have x2 : ∀ h, (⟨#[48, 49, 50, 51, 52, 53, 54, 55, 56, 57, 97, 98, 99, 100, 101, 102]⟩ : ByteArray)[r]'h = hexD r := fun _ => hexT_at (by omega)
        have w1 : IntKind.u8.wrap (q : Int) = (q : Int) := by simp [IntKind.wrap, IntKind.bits, IntKind.signed]; omega
        have w2 : IntKind.u8.wrap (r : Int) = (r : Int) := by simp [IntKind.wrap, IntKind.bits, IntKind.signed]; omega
        have t1 : ((s[j].toNat : Nat) : Int).tdiv 16 = (q : Int) := by rw [Int.tdiv_eq_ediv_of_nonneg (by omega)]; exact e1
        have t2 : ((s[j].toNat : Nat) : Int).tmod 16 = (r : Int) := by rw [Int.tmod_eq_emod_of_nonneg (by omega)]; exact e2
        clear hq hr
        have hrd : wr.drew.ownsRow w.heap.size 5 1 u3 (2 * j) (u8s ((s.data.toList.take j).flatMap hexB)) := hrow
        have hsz := hB.size
        go_upto_region 7 with fail
        refine wp_region_any (by kernel_rfl) ?_
        change wpAny _ _ _ _ _ _ _ (World.drew _)
        refine take_one 12 (i := 0) (v := u3) rfl rfl (by kernel_rfl) (by kernel_rfl) (by kernel_rfl) (fun _ _ _ h => h) (Or.inl ⟨by kernel_rfl, fun w => by (go_simp)⟩) ?_
        simp only [Act.put, List.setIfInBounds_toArray, List.set_cons_zero, List.set_cons_succ]
        refine take_one 13 (i := 1) (v := .string s) rfl rfl (by kernel_rfl) (by kernel_rfl) (by kernel_rfl) (fun _ _ _ h => h) (Or.inl ⟨by kernel_rfl, fun w => by (go_simp)⟩) ?_
        simp only [Act.put, List.setIfInBounds_toArray, List.set_cons_zero, List.set_cons_succ]
        refine take_one 14 (i := 2) (v := .int .i64 j) rfl rfl (by kernel_rfl) (by kernel_rfl) (by kernel_rfl) (fun _ _ _ h => h) (Or.inl ⟨by kernel_rfl, fun w => by (go_simp)⟩) ?_
        simp only [Act.put, List.setIfInBounds_toArray, List.set_cons_zero, List.set_cons_succ]
        refine take_one 15 (i := 3) (v := .int .u8 (s[j].toNat : Int)) rfl rfl (by kernel_rfl) (by kernel_rfl) (by kernel_rfl) (fun _ _ _ h => h) (Or.inl ⟨by kernel_rfl, fun w => by (go_simp)⟩) ?_
        simp only [Act.put, List.setIfInBounds_toArray, List.set_cons_zero, List.set_cons_succ]
        refine take_one 16 (i := 4) (v := .int .u8 (q : Int)) rfl rfl (by kernel_rfl) (by kernel_rfl) (by kernel_rfl) (fun _ _ _ h => h) (Or.inl ⟨by kernel_rfl, fun w => by (go_simp)⟩) ?_
        simp only [Act.put, List.setIfInBounds_toArray, List.set_cons_zero, List.set_cons_succ]
        refine take_one 17 (i := 5) (v := .int .u8 ((hexD q).toNat : Int)) rfl rfl (by kernel_rfl) (by kernel_rfl) (by kernel_rfl) (fun _ _ _ h => h) (Or.inl ⟨by kernel_rfl, fun w => by (go_simp)⟩) ?_
        simp only [Act.put, List.setIfInBounds_toArray, List.set_cons_zero, List.set_cons_succ]
        refine take_one 18 (i := 6) (v := .string s) rfl rfl (by kernel_rfl) (by kernel_rfl) (by kernel_rfl) (fun _ _ _ h => h) (Or.inl ⟨by kernel_rfl, fun w => by (go_simp)⟩) ?_
        simp only [Act.put, List.setIfInBounds_toArray, List.set_cons_zero, List.set_cons_succ]
        refine take_one 19 (i := 7) (v := .int .i64 j) rfl rfl (by kernel_rfl) (by kernel_rfl) (by kernel_rfl) (fun _ _ _ h => h) (Or.inl ⟨by kernel_rfl, fun w => by (go_simp)⟩) ?_
        simp only [Act.put, List.setIfInBounds_toArray, List.set_cons_zero, List.set_cons_succ]
        refine take_one 20 (i := 8) (v := .int .u8 (s[j].toNat : Int)) rfl rfl (by kernel_rfl) (by kernel_rfl) (by kernel_rfl) (fun _ _ _ h => h) (Or.inl ⟨by kernel_rfl, fun w => by (go_simp)⟩) ?_
        simp only [Act.put, List.setIfInBounds_toArray, List.set_cons_zero, List.set_cons_succ]
        refine take_one 21 (i := 9) (v := .int .u8 (r : Int)) rfl rfl (by kernel_rfl) (by kernel_rfl) (by kernel_rfl) (fun _ _ _ h => h) (Or.inl ⟨by kernel_rfl, fun w => by (go_simp)⟩) ?_
        simp only [Act.put, List.setIfInBounds_toArray, List.set_cons_zero, List.set_cons_succ]
        refine take_one 22 (i := 10) (v := .int .u8 ((hexD r).toNat : Int)) rfl rfl (by kernel_rfl) (by kernel_rfl) (by kernel_rfl) (fun _ _ _ h => h) (Or.inl ⟨by kernel_rfl, fun w => by (go_simp)⟩) ?_
        simp only [Act.put, List.setIfInBounds_toArray, List.set_cons_zero, List.set_cons_succ]
        refine wpAny_ready (rs := [11]) (by kernel_rfl) (by simp) ?_
        refine AllReady.cons rfl (fun K hK => ?_) (AllReady.nil)
        go_simp
        refine hK _ _ ?_
        clear hK K
        refine wpAny_ready (rs := [12]) (by kernel_rfl) (by simp) ?_
        refine AllReady.cons rfl (fun K hK => ?_) (AllReady.nil)
        refine step_append_own _ (by rfl) (.tmp 12) (.tmp 23) _ (by rfl) w.heap.size 5 i0 (.int .u8 0) 1 1 Tryz.underlying130 hi hz0 hz1 hz2 rfl (by decide) _ (2 * j) _ (by rfl) (hrd.alloc _) ⟨wr.heap.size, 0, none⟩ 2 2 [.int .u8 ((hexD q).toNat : Int), .int .u8 ((hexD r).toNat : Int)] (by rfl) rfl (cell_two_new _ _ _ _) (by simp [Value.oneCell']) (by unfold maxLen; omega) (by omega) (Nat.le_trans hsz (by simp)) ?_
        intro v' w3 hown' hgrow _ _
        have HB4 := Lib.hid (hB.drew.trans (((Below.refl _ wr.drew).alloc hsz _).grown hgrow (by simp; omega) (fun j ej => (hrow.lt j ej).1)))
        have HO := Lib.hid hown'
        clear hown' hgrow
        go_simp
        refine hK _ _ ?_
        clear hK K
        refine take_one 3 (i := 13) (v := v') rfl rfl (by kernel_rfl) (by kernel_rfl) (by kernel_rfl) (fun _ _ _ h => h) (Or.inl ⟨by kernel_rfl, fun w => by (go_simp)⟩) ?_
        simp only [Act.put, List.setIfInBounds_toArray, List.set_cons_zero, List.set_cons_succ]
        refine wpAny_done (by kernel_rfl) ?_ _
        go_wp2
        go_roundw
        case rel => exact ⟨j + 1, hlt, by go_num, by rw [HT.out, HX.out, u8s_app]; exact HO.out, HB4.out⟩
        case measure => simp [intOf]; omega
      · obtain rfl : j = s.size := by omega
        have HE := Lib.hid (show (s.data.toList.take s.size).flatMap hexB = hexW s.data.toList by rw [HW.out, List.take_of_length_le (by simp)])
        have hl : (hexW s.data.toList).length = 2 * s.size := by rw [HW.out, flat_hex_len]; simp
        rw [HE.out, ← hl] at hrow
        have hcv := conv_own wr w.heap.size _ _ hrow
        have HB := Lib.hid hB
        clear hB hrow hl
        go_wp2
        go_ret
        exact ⟨rfl, HB.out⟩
theorem unW {s : ByteArray} {d : ByteArray} (h : DatW d s) (hne : s.data.toList ≠ [45]) : d.data.toList ≠ [] ∧ s.data.toList = d.data.toList.flatMap hexB := by
  obtain ⟨_, h2⟩ := h
  unfold hexW at h2
  split at h2
  · exact absurd h2.symm hne
  · exact ⟨by assumption, h2.symm⟩
/-- how far the bytes are read -/
def ReadTo (s : ByteArray) (j : Nat) (l : List UInt8) : Prop := l.length = j ∧ s.data.toList.take (2 * j) = l.flatMap hexB
theorem ReadTo.next {s : ByteArray} {j m n : Nat} {l : List UInt8} {b : UInt8} (h : ReadTo s j l) (hj : 2 * j + 1 < s.size) (h1 : s[2 * j] = hexD m) (h2 : s[2 * j + 1] = hexD n) (hb : hexB b = [hexD m, hexD n]) : ReadTo s (j + 1) (l ++ [b]) := by
  have hs : s.data.toList.length = s.size := Array.length_toList (xs := s.data)
  refine ⟨by simp [h.1], ?_⟩
  rw [show 2 * (j + 1) = 2 * j + 1 + 1 by omega, List.take_succ_eq_append_getElem (by omega), List.take_succ_eq_append_getElem (by omega), h.2, List.flatMap_append]
  have e1 : s.data.toList[2 * j]'(by omega) = hexD m := h1
  have e2 : s.data.toList[2 * j + 1]'(by omega) = hexD n := h2
  rw [e1, e2]
  simp [hb]
theorem flat_at {l : List UInt8} {j : Nat} (h : j < l.length) : (l.flatMap hexB)[2 * j]? = some (hexD (l[j].toNat / 16)) ∧ (l.flatMap hexB)[2 * j + 1]? = some (hexD (l[j].toNat % 16)) := by
  induction l generalizing j with
  | nil => simp at h
  | cons b l ih =>
    cases j with
    | zero => exact ⟨rfl, rfl⟩
    | succ j =>
      have := ih (j := j) (by simpa using h)
      exact this
/-- no byte's digits: no word of bytes -/
theorem not_word {s : ByteArray} {j : Nat} (hj : 2 * j + 1 < s.size) (hne : s.data.toList ≠ [45]) (h : hexI s[2 * j] < 0 ∨ hexI s[2 * j + 1] < 0) (d : ByteArray) : ¬ DatW d s := by
  intro hw
  obtain ⟨_, e⟩ := unW hw hne
  have hs : s.data.toList.length = s.size := Array.length_toList (xs := s.data)
  have hl := congrArg List.length e
  rw [flat_hex_len] at hl
  have h1 : j < d.data.toList.length := by omega
  obtain ⟨f1, f2⟩ := flat_at h1
  rw [← e] at f1 f2
  have g1 : s[2 * j] = hexD (d.data.toList[j].toNat / 16) := (List.getElem?_eq_some_iff.1 f1).2
  have g2 : s[2 * j + 1] = hexD (d.data.toList[j].toNat % 16) := (List.getElem?_eq_some_iff.1 f2).2
  have hb := byte_16 d.data.toList[j]
  rw [g1, g2, hexI_D hb.1, hexI_D hb.2] at h
  omega
theorem not_word' {s : ByteArray} {j p q : Nat} (hp : 2 * j = p) (hq : 2 * j + 1 = q) (h1 : p < s.size) (h2 : q < s.size) (hne : s.data.toList ≠ [45]) (h : hexI s[p] < 0 ∨ hexI s[q] < 0) (d : ByteArray) : ¬ DatW d s := by
  subst hp hq
  exact not_word h2 hne h d
theorem ReadTo.next' {s : ByteArray} {j m n p q : Nat} {l : List UInt8} {b : UInt8} (h : ReadTo s j l) (hp : 2 * j = p) (hq : 2 * j + 1 = q) (h1 : p < s.size) (h2 : q < s.size) (e1 : s[p] = hexD m) (e2 : s[q] = hexD n) (hb : hexB b = [hexD m, hexD n]) : ReadTo s (j + 1) (l ++ [b]) := by
  subst hp hq
  exact h.next h2 e1 e2 hb
theorem word_odd {s : ByteArray} (h : s.data.toList = [] ∨ 1024 < s.size ∨ s.size % 2 ≠ 0) (hne : s.data.toList ≠ [45]) (d : ByteArray) : ¬ DatW d s := by
  intro hw
  obtain ⟨h1, e⟩ := unW hw hne
  have hs : s.data.toList.length = s.size := Array.length_toList (xs := s.data)
  have hd : d.data.toList.length = d.size := Array.length_toList (xs := d.data)
  have hl := congrArg List.length e
  rw [flat_hex_len] at hl
  have := hw.1
  have h0 : d.data.toList.length ≠ 0 := fun k => h1 (List.eq_nil_of_length_eq_zero k)
  rcases h with h | h | h
  · rw [h] at hl; simp at hl; omega
  · omega
  · omega
/-- what readData answers -/
def DataE (s : ByteArray) (e : Ending) : Prop := (∃ d, DatW d s ∧ e = .returned (.tuple #[.string d, .bool true])) ∨ ((∀ d, ¬ DatW d s) ∧ ∃ x, e = .returned (.tuple #[.string x, .bool false]))
theorem ReadTo.done {s : ByteArray} {j : Nat} {l : List UInt8} (h : ReadTo s j l) (hj : 2 * j = s.size) (h0 : s.data.toList ≠ []) (h1 : s.size ≤ 1024) : DatW (bs l) s := by
  have hs : s.data.toList.length = s.size := Array.length_toList (xs := s.data)
  have e := h.2
  rw [List.take_of_length_le (by omega)] at e
  have hl : l ≠ [] := by rintro rfl; exact h0 e
  exact ⟨by rw [bs_size, h.1]; omega, by rw [bs_list, hexW, if_neg hl, e]⟩
set_option maxRecDepth 100000 in
set_option maxHeartbeats 4000000 in
theorem readData_any (s : ByteArray) (w : World) :
    Calls Tryz.prog 155 #[.string s] w fun e w' => DataE s e ∧ Below w.heap.size w w' := by
  have hs : s.data.toList.length = s.size := Array.length_toList (xs := s.data)
  by_cases h1 : s.toList = [45]
  · have b1 : (s.toList == [45]) = true := beq_iff_eq.2 h1
    have HE := Lib.hid (show DatW ⟨#[]⟩ s from ⟨by decide, by rw [← toList_eq s, h1]; rfl⟩)
    clear h1 hs
    go_enter Tryz.func155, Tryz.ntmps155
    go_wp2
    go_ret2
    exact ⟨.inl ⟨_, HE.out, rfl⟩, Below.refl _ _⟩
  · have b1 : (s.toList == [45]) = false := beq_eq_false_iff_ne.2 h1
    rw [toList_eq] at h1
    by_cases h2 : s.data.toList = []
    · have b2 : s.toList.isEmpty = true := by rw [toList_eq, h2]; rfl
      have HE := Lib.hid (word_odd (.inl h2) h1)
      have hz : (s.size : Int) = 0 := by rw [h2] at hs; simp at hs; omega
      clear h1 h2 hs
      go_enter Tryz.func155, Tryz.ntmps155
      go_wp2
      go_ret2
      exact ⟨.inr ⟨HE.out, _, rfl⟩, Below.refl _ _⟩
    · have b2 : s.toList.isEmpty = false := by rw [toList_eq]; cases h : s.data.toList with | nil => exact absurd h h2 | cons _ _ => rfl
      by_cases h3 : 1024 < s.size
      · have HE := Lib.hid (word_odd (.inr (.inl h3)) h1)
        have h3' : (1024 : Int) < (s.size : Int) := by omega
        clear h1 h2 hs h3
        go_enter Tryz.func155, Tryz.ntmps155
        go_wp2
        go_ret2
        exact ⟨.inr ⟨HE.out, _, rfl⟩, Below.refl _ _⟩
      · by_cases h4 : s.size % 2 = 0
        · have h3' : ¬ (1024 : Int) < (s.size : Int) := by omega
          have h4' : (s.size : Int).tmod 2 = 0 := by rw [Int.tmod_eq_emod_of_nonneg (by omega)]; omega
          have h4'' : (s.size : Int) % 2 = 0 := by omega
          obtain ⟨i0, hi, hz0, hz1, hz2⟩ := info_parts info5
          have H1 := Lib.hid h1
          have H2 := Lib.hid h2
          have H4 := Lib.hid h4
          clear h1 h2 hs h4
          go_enter Tryz.func155, Tryz.ntmps155
          go_wp2
          go_loopw [4, 5] (fun v i wr => ∃ (j : Nat) (l : List UInt8), 2 * j ≤ s.size ∧ i = .int .i64 ((2 * j : Nat) : Int) ∧ wr.ownsRow w.heap.size 5 1 v l.length (u8s l) ∧ Hid (ReadTo s j l) ∧ Below w.heap.size w wr) (fun _ i _ => s.size - (intOf i).toNat)
          case atStart => exact ⟨0, [], by omega, rfl, World.ownsRow_nil _ _ _ _, Lib.hid ⟨rfl, by simp⟩, Below.refl _ _⟩
          case round =>
            obtain ⟨j, l, hj, rfl, hrow, HR, hB⟩ := hrel
            by_cases hlt : 2 * j < s.size
            · have hlt1 : 2 * j + 1 < s.size := by have := H4.out; omega
              obtain ⟨p, hp⟩ : ∃ p, 2 * j = p := ⟨_, rfl⟩
              obtain ⟨q, hq⟩ : ∃ q, 2 * j + 1 = q := ⟨_, rfl⟩
              have hps : p < s.size := by omega
              have hqs : q < s.size := by omega
              have HNot := Lib.hid (not_word' hp hq hps hqs H1.out)
              have HNx := Lib.hid (fun m n b => HR.out.next' (m := m) (n := n) (b := b) hp hq hps hqs)
              have hpq : (p : Int) + 1 = (q : Int) := by omega
              have wq : IntKind.i64.wrap (q : Int) = (q : Int) := wrapI _ (by omega) (by omega)
              have hji : (p : Int) < (s.size : Int) := by omega
              have hji1 : (q : Int) < (s.size : Int) := by omega
              have C1 := fun w => hex_any s[p] w
              have C2 := fun w => hex_any s[q] w
              have HP := Lib.hid hp
              have HQ := Lib.hid hq
              have hl2 : l.length = j := HR.out.1
              have HL := Lib.hid hl2
              have hll : l.length ≤ 600 := by omega
              rw [hp]
              clear hp hq hj hl2 hlt1
              by_cases hbad : hexI s[p] < 0 ∨ hexI s[q] < 0
              · have HE := Lib.hid (HNot.out hbad)
                generalize hexI s[p] = x at *
                generalize hexI s[q] = y at *
                have HB := Lib.hid hB
                clear hB hrow HNx
                go_upto_region 9 with fail
                refine wp_region_any (by kernel_rfl) ?_
                change wpAny _ _ _ _ _ _ _ (World.drew _)
                refine take_one 29 (i := 0) (v := .string s) rfl rfl (by kernel_rfl) (by kernel_rfl) (by kernel_rfl) (fun _ _ _ h => h) (Or.inl ⟨by kernel_rfl, fun w => by (go_simp)⟩) ?_
                simp only [Act.put, List.setIfInBounds_toArray, List.set_cons_zero, List.set_cons_succ]
                refine take_one 30 (i := 1) (v := .int .i64 p) rfl rfl (by kernel_rfl) (by kernel_rfl) (by kernel_rfl) (fun _ _ _ h => h) (Or.inl ⟨by kernel_rfl, fun w => by (go_simp)⟩) ?_
                simp only [Act.put, List.setIfInBounds_toArray, List.set_cons_zero, List.set_cons_succ]
                refine take_one 31 (i := 2) (v := .int .u8 (s[p].toNat : Int)) rfl rfl (by kernel_rfl) (by kernel_rfl) (by kernel_rfl) (fun _ _ _ h => h) (Or.inl ⟨by kernel_rfl, fun w => by (go_simp)⟩) ?_
                simp only [Act.put, List.setIfInBounds_toArray, List.set_cons_zero, List.set_cons_succ]
                refine take_one 33 (i := 4) (v := .string s) rfl rfl (by kernel_rfl) (by kernel_rfl) (by kernel_rfl) (fun _ _ _ h => h) (Or.inl ⟨by kernel_rfl, fun w => by (go_simp)⟩) ?_
                simp only [Act.put, List.setIfInBounds_toArray, List.set_cons_zero, List.set_cons_succ]
                refine take_one 34 (i := 5) (v := .int .i64 p) rfl rfl (by kernel_rfl) (by kernel_rfl) (by kernel_rfl) (fun _ _ _ h => h) (Or.inl ⟨by kernel_rfl, fun w => by (go_simp)⟩) ?_
                simp only [Act.put, List.setIfInBounds_toArray, List.set_cons_zero, List.set_cons_succ]
                refine take_one 35 (i := 6) (v := .int .i64 q) rfl rfl (by kernel_rfl) (by kernel_rfl) (by kernel_rfl) (fun _ _ _ h => h) (Or.inl ⟨by kernel_rfl, fun w => by (go_simp)⟩) ?_
                simp only [Act.put, List.setIfInBounds_toArray, List.set_cons_zero, List.set_cons_succ]
                refine take_one 36 (i := 7) (v := .int .u8 (s[q].toNat : Int)) rfl rfl (by kernel_rfl) (by kernel_rfl) (by kernel_rfl) (fun _ _ _ h => h) (Or.inl ⟨by kernel_rfl, fun w => by (go_simp)⟩) ?_
                simp only [Act.put, List.setIfInBounds_toArray, List.set_cons_zero, List.set_cons_succ]
                refine wpAny_ready (rs := [3]) (by kernel_rfl) (by simp) ?_
                refine AllReady.cons rfl (fun K hK => ?_) (AllReady.nil)
                go_simp
                go_at_call 136
                refine (C1 _).mono ?_
                rintro e w' ⟨rfl, rfl⟩
                go_wp2_with fail
                refine wpAny_ready (rs := [8]) (by kernel_rfl) (by simp) ?_
                refine AllReady.cons rfl (fun K hK => ?_) (AllReady.nil)
                go_simp
                go_at_call 136
                refine (C2 _).mono ?_
                rintro e w' ⟨rfl, rfl⟩
                go_wp2_with fail
                refine take_one 6 (i := 9) (v := .int .i64 x) rfl rfl (by kernel_rfl) (by kernel_rfl) (by kernel_rfl) (fun _ _ _ h => h) (Or.inl ⟨by kernel_rfl, fun w => by (go_simp)⟩) ?_
                simp only [Act.put, List.setIfInBounds_toArray, List.set_cons_zero, List.set_cons_succ]
                refine take_one 7 (i := 10) (v := .int .i64 y) rfl rfl (by kernel_rfl) (by kernel_rfl) (by kernel_rfl) (fun _ _ _ h => h) (Or.inl ⟨by kernel_rfl, fun w => by (go_simp)⟩) ?_
                simp only [Act.put, List.setIfInBounds_toArray, List.set_cons_zero, List.set_cons_succ]
                refine wpAny_done (by kernel_rfl) ?_ _
                clear C1 C2
                rcases Int.lt_or_le x 0 with hx | hx
                · go_wp2
                  go_ret2
                  first | exact ⟨.inr ⟨HE.out, _, rfl⟩, HB.out⟩ | exact ⟨.inr ⟨HE.out, _, rfl⟩, HB.out.drew⟩
                · have hy : y < 0 := by omega
                  clear hbad
                  go_wp2
                  go_ret2
                  first | exact ⟨.inr ⟨HE.out, _, rfl⟩, HB.out⟩ | exact ⟨.inr ⟨HE.out, _, rfl⟩, HB.out.drew⟩
              · obtain ⟨m, hm, em, gm⟩ := hexI_of (c := s[p]) (by omega)
                obtain ⟨n, hn, en, gn⟩ := hexI_of (c := s[q]) (by omega)
                obtain ⟨b, hb1, hb2, hb3⟩ := hex_byte hm hn
                have HN := Lib.hid (HNx.out m n b em en hb1)
                rw [gm] at C1
                rw [gn] at C2
                clear gm gn hbad em en hb1
                go_upto_region 9 with fail
                refine wp_region_any (by kernel_rfl) ?_
                change wpAny _ _ _ _ _ _ _ (World.drew _)
                refine take_one 29 (i := 0) (v := .string s) rfl rfl (by kernel_rfl) (by kernel_rfl) (by kernel_rfl) (fun _ _ _ h => h) (Or.inl ⟨by kernel_rfl, fun w => by (go_simp)⟩) ?_
                simp only [Act.put, List.setIfInBounds_toArray, List.set_cons_zero, List.set_cons_succ]
                refine take_one 30 (i := 1) (v := .int .i64 p) rfl rfl (by kernel_rfl) (by kernel_rfl) (by kernel_rfl) (fun _ _ _ h => h) (Or.inl ⟨by kernel_rfl, fun w => by (go_simp)⟩) ?_
                simp only [Act.put, List.setIfInBounds_toArray, List.set_cons_zero, List.set_cons_succ]
                refine take_one 31 (i := 2) (v := .int .u8 (s[p].toNat : Int)) rfl rfl (by kernel_rfl) (by kernel_rfl) (by kernel_rfl) (fun _ _ _ h => h) (Or.inl ⟨by kernel_rfl, fun w => by (go_simp)⟩) ?_
                simp only [Act.put, List.setIfInBounds_toArray, List.set_cons_zero, List.set_cons_succ]
                refine take_one 33 (i := 4) (v := .string s) rfl rfl (by kernel_rfl) (by kernel_rfl) (by kernel_rfl) (fun _ _ _ h => h) (Or.inl ⟨by kernel_rfl, fun w => by (go_simp)⟩) ?_
                simp only [Act.put, List.setIfInBounds_toArray, List.set_cons_zero, List.set_cons_succ]
                refine take_one 34 (i := 5) (v := .int .i64 p) rfl rfl (by kernel_rfl) (by kernel_rfl) (by kernel_rfl) (fun _ _ _ h => h) (Or.inl ⟨by kernel_rfl, fun w => by (go_simp)⟩) ?_
                simp only [Act.put, List.setIfInBounds_toArray, List.set_cons_zero, List.set_cons_succ]
                refine take_one 35 (i := 6) (v := .int .i64 q) rfl rfl (by kernel_rfl) (by kernel_rfl) (by kernel_rfl) (fun _ _ _ h => h) (Or.inl ⟨by kernel_rfl, fun w => by (go_simp)⟩) ?_
                simp only [Act.put, List.setIfInBounds_toArray, List.set_cons_zero, List.set_cons_succ]
                refine take_one 36 (i := 7) (v := .int .u8 (s[q].toNat : Int)) rfl rfl (by kernel_rfl) (by kernel_rfl) (by kernel_rfl) (fun _ _ _ h => h) (Or.inl ⟨by kernel_rfl, fun w => by (go_simp)⟩) ?_
                simp only [Act.put, List.setIfInBounds_toArray, List.set_cons_zero, List.set_cons_succ]
                refine wpAny_ready (rs := [3]) (by kernel_rfl) (by simp) ?_
                refine AllReady.cons rfl (fun K hK => ?_) (AllReady.nil)
                go_simp
                go_at_call 136
                refine (C1 _).mono ?_
                rintro e w' ⟨rfl, rfl⟩
                go_wp2_with fail
                refine wpAny_ready (rs := [8]) (by kernel_rfl) (by simp) ?_
                refine AllReady.cons rfl (fun K hK => ?_) (AllReady.nil)
                go_simp
                go_at_call 136
                refine (C2 _).mono ?_
                rintro e w' ⟨rfl, rfl⟩
                go_wp2_with fail
                refine take_one 6 (i := 9) (v := .int .i64 (m : Int)) rfl rfl (by kernel_rfl) (by kernel_rfl) (by kernel_rfl) (fun _ _ _ h => h) (Or.inl ⟨by kernel_rfl, fun w => by (go_simp)⟩) ?_
                simp only [Act.put, List.setIfInBounds_toArray, List.set_cons_zero, List.set_cons_succ]
                refine take_one 7 (i := 10) (v := .int .i64 (n : Int)) rfl rfl (by kernel_rfl) (by kernel_rfl) (by kernel_rfl) (fun _ _ _ h => h) (Or.inl ⟨by kernel_rfl, fun w => by (go_simp)⟩) ?_
                simp only [Act.put, List.setIfInBounds_toArray, List.set_cons_zero, List.set_cons_succ]
                refine wpAny_done (by kernel_rfl) ?_ _
                clear C1 C2
                have hsz := hB.size
                have hm1 : (m : Int) < 16 := by omega
                have hn1 : (n : Int) < 16 := by omega
                have v3 : (m : Int) * 16 + (n : Int) = (b.toNat : Int) := by omega
                clear hb2 hb3
                go_wp2_with (at_builtin; go_loud (refine wpList_append_own _ rfl _ _ 130 rfl w.heap.size 5 i0 (.int .u8 0) 1 1 Tryz.underlying130 hi hz0 hz1 hz2 rfl (by decide) _ _ _ rfl (hrow.alloc _) ⟨wr.heap.size, 0, none⟩ 1 1 [.int .u8 (b.toNat : Int)] rfl rfl (cell_one_made _ _ _) (by simp [Value.oneCell']) (by unfold maxLen; omega) (by omega) (Nat.le_trans hsz (by simp)) ?_; intro v' w3 hown' hgrow _; have HB4 := Lib.hid (hB.trans (((Below.refl _ wr).alloc hsz _).drew.grown hgrow (by simp; omega) (fun j ej => (hrow.lt j ej).1))); have HO := Lib.hid hown'; clear hown' hgrow))
                go_roundw
                case rel => exact ⟨j + 1, l ++ [b], by have := HQ.out; omega, by have := HP.out; go_num, by rw [u8s_app, List.length_append]; exact HO.out, HN, HB4.out⟩
                case measure => have := HP.out; simp [intOf]; omega
            · obtain hjs : 2 * j = s.size := by omega
              have HE := Lib.hid (HR.out.done hjs H2.out (by omega))
              have hji : ¬ (((2 * j : Nat) : Int) < (s.size : Int)) := by omega
              have hcv := conv_own wr w.heap.size _ _ hrow
              have HB := Lib.hid hB
              clear hB hrow
              go_wp2
              go_ret2
              exact ⟨.inl ⟨_, HE.out, rfl⟩, HB.out⟩
        · have HE := Lib.hid (word_odd (.inr (.inr h4)) h1)
          have h3' : ¬ (1024 : Int) < (s.size : Int) := by omega
          have h4' : (s.size : Int).tmod 2 = 1 := by rw [Int.tmod_eq_emod_of_nonneg (by omega)]; omega
          have h4'' : (s.size : Int) % 2 = 1 := by omega
          clear h1 h2 hs h4
          go_enter Tryz.func155, Tryz.ntmps155
          go_wp2
          go_ret2
          exact ⟨.inr ⟨HE.out, _, rfl⟩, Below.refl _ _⟩
end Go.Proofs.YtfokdmijkniomaaGreatDoor

namespace Go.Proofs.YtfokdmijkniomaaGreatDoor
open Go.RowKit Go

def cmdV (c : Cmd) : Value := .agg #[.int .i64 c.kind, .string c.path, .string c.dest, .int .i64 c.place, .string c.data]
def CmdObj (c : Cmd) : Obj := .cells #[.int .i64 c.kind, .string c.path, .string c.dest, .int .i64 c.place, .string c.data] 31
structure CmdAt (c : Cmd) (b : Nat) (w : World) : Prop where
  obj : w.heap[b]? = some (CmdObj c)
theorem CmdAt.cells {c : Cmd} {b : Nat} {w : World} (h : CmdAt c b w) : w.cell? ⟨b, 0, none⟩ = some (.int .i64 c.kind) ∧ w.cell? ⟨b, 1, none⟩ = some (.string c.path) ∧ w.cell? ⟨b, 2, none⟩ = some (.string c.dest) ∧ w.cell? ⟨b, 3, none⟩ = some (.int .i64 c.place) ∧ w.cell? ⟨b, 4, none⟩ = some (.string c.data) := by
  have := h.obj
  unfold CmdObj at this
  refine ⟨?_, ?_, ?_, ?_, ?_⟩ <;> simp [World.cell?, this]
theorem CmdAt.fr {c : Cmd} {b : Nat} {w : World} (h : CmdAt c b w) (i : Nat) : w.frozen? ⟨b, i, none⟩ = false := by
  have := h.obj
  unfold CmdObj at this
  simp [World.frozen?, this]
theorem CmdAt.later {c : Cmd} {b : Nat} {w w' : World} (h : CmdAt c b w) (hB : Below w.heap.size w w') : CmdAt c b w' := ⟨keeps_of hB h.obj⟩
theorem CmdAt.new (w : World) (c : Cmd) : CmdAt c w.heap.size (w.alloc (CmdObj c)) := ⟨heap_alloc_new _ _⟩
/-- a command within bounds -/
structure CmdIn (c : Cmd) : Prop where
  kind : IntOk c.kind
  place : IntOk c.place
  path : c.path.size ≤ 281474976710656
  dest : c.dest.size ≤ 281474976710656
  data : c.data.size ≤ 281474976710656
set_option maxRecDepth 100000 in
theorem fldLay_any (f : Fld) (c : Cmd) (hc : CmdIn c) (hd : c.data.size ≤ 512) (w : World) (hg : GE w) :
    Calls Tryz.prog 81 #[.int .i64 (fldN f), cmdV c] w fun e w' => e = .returned (.string (fldLay c f)) ∧ Below w.heap.size w w' := by
  obtain ⟨w1, hw1⟩ : ∃ w1, w.alloc (CmdObj c) = w1 := ⟨_, rfl⟩
  have hat : CmdAt c w.heap.size w1 := by rw [← hw1]; exact .new _ _
  have hB1 : Below w.heap.size w w1 := by rw [← hw1]; exact (Below.refl _ w).alloc (Nat.le_refl _) _
  obtain ⟨c0, c1, c2, c3, c4⟩ := hat.cells
  have hg1 := hg.below hB1
  have CI := itoa_any c.place hc.place w1 hg1
  have CD := layData_any c.data (by omega) w1
  have hsz := hB1.size
  unfold cmdV
  unfold CmdObj at hw1
  have HB := Lib.hid hB1
  clear hat hg hg1 hB1 hc hd
  cases f with
  | path =>
    clear CI CD
    show Calls _ _ #[.int .i64 0, _] w _
    go_enter Tryz.func81, Tryz.ntmps81
    go_wp2
    go_ret
    exact ⟨rfl, HB.out⟩
  | name =>
    clear CI CD
    show Calls _ _ #[.int .i64 1, _] w _
    go_enter Tryz.func81, Tryz.ntmps81
    go_wp2
    go_ret
    exact ⟨rfl, HB.out⟩
  | dest =>
    clear CI CD
    show Calls _ _ #[.int .i64 2, _] w _
    go_enter Tryz.func81, Tryz.ntmps81
    go_wp2
    go_ret
    exact ⟨rfl, HB.out⟩
  | place =>
    clear CD
    show Calls _ _ #[.int .i64 3, _] w _
    go_enter Tryz.func81, Tryz.ntmps81
    go_wp2_with fail
    refine CI.mono ?_
    rintro e w2 ⟨rfl, hB2⟩
    have HB2 := Lib.hid (HB.out.trans (hB2.mono hsz))
    clear hB2
    go_wp2
    go_ret
    exact ⟨rfl, HB2.out⟩
  | data =>
    clear CI
    show Calls _ _ #[.int .i64 4, _] w _
    go_enter Tryz.func81, Tryz.ntmps81
    go_wp2_with fail
    refine CD.mono ?_
    rintro e w2 ⟨rfl, hB2⟩
    have HB2 := Lib.hid (HB.out.trans (hB2.mono hsz))
    clear hB2
    go_wp2
    go_ret
    exact ⟨rfl, HB2.out⟩

/-! ### Reading a field -/
/-- what reading a field from a word answers, and leaves of the command -/
def FldE (w : ByteArray) (c : Cmd) (f : Fld) (b : Nat) (e : Ending) (W : World) : Prop :=
  (∃ d, FldRd w c f d ∧ e = .returned (.bool true) ∧ CmdAt d b W) ∨ ((∀ d, ¬ FldRd w c f d) ∧ e = .returned (.bool false) ∧ ∃ d, CmdAt d b W)
theorem cmd_set1 {c : Cmd} {b : Nat} {w : World} (h : CmdAt c b w) (x : ByteArray) : CmdAt { c with path := x } b (w.setCell ⟨b, 1, none⟩ (.string x)) := by
  refine ⟨?_⟩
  have := h.obj
  unfold CmdObj at this ⊢
  rw [heap_set this]; rfl
theorem cmd_set2 {c : Cmd} {b : Nat} {w : World} (h : CmdAt c b w) (x : ByteArray) : CmdAt { c with dest := x } b (w.setCell ⟨b, 2, none⟩ (.string x)) := by
  refine ⟨?_⟩
  have := h.obj
  unfold CmdObj at this ⊢
  rw [heap_set this]; rfl
theorem cmd_set3 {c : Cmd} {b : Nat} {w : World} (h : CmdAt c b w) (x : Int) : CmdAt { c with place := x } b (w.setCell ⟨b, 3, none⟩ (.int .i64 x)) := by
  refine ⟨?_⟩
  have := h.obj
  unfold CmdObj at this ⊢
  rw [heap_set this]; rfl
theorem cmd_set4 {c : Cmd} {b : Nat} {w : World} (h : CmdAt c b w) (x : ByteArray) : CmdAt { c with data := x } b (w.setCell ⟨b, 4, none⟩ (.string x)) := by
  refine ⟨?_⟩
  have := h.obj
  unfold CmdObj at this ⊢
  rw [heap_set this]; rfl
/-- what readAt answers -/
def AtE (s : ByteArray) (e : Ending) : Prop := ∃ n ok, e = .returned (.tuple #[.int .i64 n, .bool ok]) ∧ ((ok = true ∧ AtW n s) ∨ (ok = false ∧ ∀ m, ¬ AtW m s))
set_option maxRecDepth 100000 in
theorem readAt_any (s : ByteArray) (hs : s.size ≤ 281474976710656) (w : World) (hg : GE w) :
    Calls Tryz.prog 154 #[.string s] w fun e w' => AtE s e ∧ Below w.heap.size w w' := by
  have CA := atoi_any s hs w hg
  have HG := Lib.hid hg
  clear hg
  go_enter Tryz.func154, Tryz.ntmps154
  go_wp2_with fail
  refine CA.mono ?_
  rintro e w1 ⟨n, err, rfl, hn, hv, hB1⟩
  have HV := Lib.hid hv
  have HB1 := Lib.hid hB1
  have CI := itoa_any n hn w1 (HG.out.below hB1)
  have hsz := hB1.size
  obtain ⟨T, hT⟩ : ∃ T, bs (Lib.itoa n) = T := ⟨_, rfl⟩
  rw [hT] at CI
  have HT := Lib.hid (show Lib.itoa n = T.data.toList by rw [← hT, bs_list])
  have HU := Lib.hid (show ∀ m, AtW m s → n = m from fun m h => hv m h.atoi)
  clear hv hB1 CA hn hT
  have HN := Lib.hid (show ¬ (0 ≤ n ∧ n ≤ 16384 ∧ Lib.itoa n = s.data.toList) → ∀ m, ¬ AtW m s from fun h m k => by
    have := HU.out m k
    subst this
    exact h k)
  by_cases h0 : 0 ≤ n
  · by_cases h1 : n ≤ 16384
    · by_cases h2 : T.toList = s.toList
      · have b2 : (T.toList == s.toList) = true := beq_iff_eq.2 h2
        have HE := Lib.hid (show AtW n s from ⟨h0, h1, by rw [HT.out, ← toList_eq, h2, toList_eq]⟩)
        clear h2
        go_wp2_with (refine CI.mono ?_; rintro e w2 ⟨rfl, hB2⟩; have HB2 := Lib.hid (HB1.out.trans (hB2.mono hsz)); clear hB2)
        go_ret2
        exact ⟨⟨n, true, rfl, .inl ⟨rfl, HE.out⟩⟩, HB2.out⟩
      · have b2 : (T.toList == s.toList) = false := beq_eq_false_iff_ne.2 h2
        have HE := Lib.hid (HN.out fun k => h2 (by rw [toList_eq, toList_eq, ← HT.out, k.2.2]))
        clear h2
        go_wp2_with (refine CI.mono ?_; rintro e w2 ⟨rfl, hB2⟩; have HB2 := Lib.hid (HB1.out.trans (hB2.mono hsz)); clear hB2)
        go_ret2
        exact ⟨⟨n, false, rfl, .inr ⟨rfl, HE.out⟩⟩, HB2.out⟩
    · have HE := Lib.hid (HN.out fun k => h1 k.2.1)
      clear CI
      go_wp2
      go_ret2
      exact ⟨⟨n, false, rfl, .inr ⟨rfl, HE.out⟩⟩, HB1.out⟩
  · have HE := Lib.hid (HN.out fun k => h0 k.1)
    clear CI
    go_wp2
    go_ret2
    exact ⟨⟨n, false, rfl, .inr ⟨rfl, HE.out⟩⟩, HB1.out⟩
end Go.Proofs.YtfokdmijkniomaaGreatDoor

namespace Go.Proofs.YtfokdmijkniomaaGreatDoor
open Go.RowKit Go
set_option maxRecDepth 100000 in
set_option maxHeartbeats 2000000 in
theorem fldRead_any (f : Fld) (c : Cmd) (b : Nat) (s : ByteArray) (hs : s.size ≤ 281474976710656) (w : World) (hat : CmdAt c b w) (hg : GE w) :
    Calls Tryz.prog 111 #[.int .i64 (fldN f), .pointer (some ⟨b, 0, none⟩), .string s] w fun e w' => FldE s c f b e w' ∧ Stir (fun i => i = b) w w' := by
  have CP := path_any s hs w
  have CN := name_any s hs w
  have CA := readAt_any s hs w hg
  have CD := readData_any s w
  have HA := Lib.hid hat
  clear hat hg
  cases f with
  | path =>
    show Calls _ _ #[.int .i64 0, _, _] w _
    go_enter Tryz.func111, Tryz.ntmps111
    go_wp2_with fail
    refine CP.mono ?_
    rintro e w1 ⟨hp, hB1⟩
    rcases hp with ⟨l, v, hl, rfl, _⟩ | ⟨hno, rfl⟩
    · have HL := Lib.hid (show PathOk s from ⟨l, hl⟩)
      clear hl
      have HS := Lib.hid (show Stir (fun i => i = b) w w1 from Stir.of_below hB1)
      have hat1 := HA.out.later hB1
      obtain ⟨c0, c1, c2, c3, c4⟩ := hat1.cells
      have hf := hat1.fr 1
      have HA1 := Lib.hid hat1
      clear CP CN CA CD hat1 hB1
      go_wp2
      go_ret
      exact ⟨.inl ⟨_, ⟨HL.out, rfl⟩, rfl, cmd_set1 HA1.out _⟩, HS.out.set (.inl rfl) _⟩
    · have HL := Lib.hid (show ¬ PathOk s from fun ⟨l, h⟩ => hno l h)
      clear hno
      have HS := Lib.hid (show Stir (fun i => i = b) w w1 from Stir.of_below hB1)
      have hat1 := HA.out.later hB1
      obtain ⟨c0, c1, c2, c3, c4⟩ := hat1.cells
      have hf := hat1.fr 1
      have HA1 := Lib.hid hat1
      clear CP CN CA CD hat1 hB1
      go_wp2
      go_ret
      exact ⟨.inr ⟨fun d k => HL.out k.1, rfl, _, cmd_set1 HA1.out _⟩, HS.out.set (.inl rfl) _⟩
  | name =>
    show Calls _ _ #[.int .i64 1, _, _] w _
    go_enter Tryz.func111, Tryz.ntmps111
    obtain ⟨c0, c1, c2, c3, c4⟩ := HA.out.cells
    have hf := HA.out.fr 1
    clear CP CA CD
    by_cases hn : NameOk s
    · rw [nameB_yes hn] at CN
      have HL := Lib.hid hn
      clear hn
      go_wp2_with (refine CN.mono ?_; rintro e w' ⟨rfl, rfl⟩)
      go_ret
      exact ⟨.inl ⟨_, ⟨HL.out, rfl⟩, rfl, cmd_set1 HA.out _⟩, (Stir.refl (fun i => i = b) w).set (.inl rfl) _⟩
    · rw [nameB_no hn] at CN
      have HL := Lib.hid hn
      clear hn
      go_wp2_with (refine CN.mono ?_; rintro e w' ⟨rfl, rfl⟩)
      go_ret
      exact ⟨.inr ⟨fun d k => HL.out k.1, rfl, _, cmd_set1 HA.out _⟩, (Stir.refl (fun i => i = b) w).set (.inl rfl) _⟩
  | dest =>
    show Calls _ _ #[.int .i64 2, _, _] w _
    go_enter Tryz.func111, Tryz.ntmps111
    go_wp2_with fail
    refine CP.mono ?_
    rintro e w1 ⟨hp, hB1⟩
    rcases hp with ⟨l, v, hl, rfl, _⟩ | ⟨hno, rfl⟩
    · have HL := Lib.hid (show PathOk s from ⟨l, hl⟩)
      clear hl
      have HS := Lib.hid (show Stir (fun i => i = b) w w1 from Stir.of_below hB1)
      have hat1 := HA.out.later hB1
      obtain ⟨c0, c1, c2, c3, c4⟩ := hat1.cells
      have hf := hat1.fr 2
      have HA1 := Lib.hid hat1
      clear CP CN CA CD hat1 hB1
      go_wp2
      go_ret
      exact ⟨.inl ⟨_, ⟨HL.out, rfl⟩, rfl, cmd_set2 HA1.out _⟩, HS.out.set (.inl rfl) _⟩
    · have HL := Lib.hid (show ¬ PathOk s from fun ⟨l, h⟩ => hno l h)
      clear hno
      have HS := Lib.hid (show Stir (fun i => i = b) w w1 from Stir.of_below hB1)
      have hat1 := HA.out.later hB1
      obtain ⟨c0, c1, c2, c3, c4⟩ := hat1.cells
      have hf := hat1.fr 2
      have HA1 := Lib.hid hat1
      clear CP CN CA CD hat1 hB1
      go_wp2
      go_ret
      exact ⟨.inr ⟨fun d k => HL.out k.1, rfl, _, cmd_set2 HA1.out _⟩, HS.out.set (.inl rfl) _⟩
  | place =>
    show Calls _ _ #[.int .i64 3, _, _] w _
    go_enter Tryz.func111, Tryz.ntmps111
    go_wp2_with fail
    refine CA.mono ?_
    rintro e w1 ⟨hp, hB1⟩
    obtain ⟨n, ok, rfl, hn⟩ := hp
    have HL := Lib.hid hn
    clear hn
    have HS := Lib.hid (show Stir (fun i => i = b) w w1 from Stir.of_below hB1)
    have hat1 := HA.out.later hB1
    obtain ⟨c0, c1, c2, c3, c4⟩ := hat1.cells
    have hf := hat1.fr 3
    have HA1 := Lib.hid hat1
    clear CP CN CA CD hat1 hB1
    go_wp2
    go_ret
    refine ⟨?_, HS.out.set (.inl rfl) _⟩
    rcases HL.out with ⟨rfl, h⟩ | ⟨rfl, h⟩
    · exact .inl ⟨_, ⟨n, h, rfl⟩, rfl, cmd_set3 HA1.out _⟩
    · exact .inr ⟨fun d ⟨m, k, _⟩ => h m k, rfl, _, cmd_set3 HA1.out _⟩
  | data =>
    show Calls _ _ #[.int .i64 4, _, _] w _
    go_enter Tryz.func111, Tryz.ntmps111
    go_wp2_with fail
    refine CD.mono ?_
    rintro e w1 ⟨hp, hB1⟩
    rcases hp with ⟨x, hx, rfl⟩ | ⟨hno, x, rfl⟩
    · have HL := Lib.hid hx
      clear hx
      have HS := Lib.hid (show Stir (fun i => i = b) w w1 from Stir.of_below hB1)
      have hat1 := HA.out.later hB1
      obtain ⟨c0, c1, c2, c3, c4⟩ := hat1.cells
      have hf := hat1.fr 4
      have HA1 := Lib.hid hat1
      clear CP CN CA CD hat1 hB1
      go_wp2
      go_ret
      exact ⟨.inl ⟨_, ⟨x, HL.out, rfl⟩, rfl, cmd_set4 HA1.out _⟩, HS.out.set (.inl rfl) _⟩
    · have HL := Lib.hid hno
      clear hno
      have HS := Lib.hid (show Stir (fun i => i = b) w w1 from Stir.of_below hB1)
      have hat1 := HA.out.later hB1
      obtain ⟨c0, c1, c2, c3, c4⟩ := hat1.cells
      have hf := hat1.fr 4
      have HA1 := Lib.hid hat1
      clear CP CN CA CD hat1 hB1
      go_wp2
      go_ret
      exact ⟨.inr ⟨fun d ⟨m, k, _⟩ => HL.out m k, rfl, _, cmd_set4 HA1.out _⟩, HS.out.set (.inl rfl) _⟩
end Go.Proofs.YtfokdmijkniomaaGreatDoor

namespace Go.Proofs.YtfokdmijkniomaaGreatDoor
open Go.RowKit Go

theorem results_cell_one {fn : Func} {p : Tmp} {ty : TypeId} (h : fn.results = #[.cell p ty]) (tmps : Array Value) (P : Program) (w : World) :
    (results fn tmps).run P w =
      ((asAddr (tmps.getD p undef)).run P w).andThen fun a w₁ => (loadVar ty a).run P w₁ := by
  simp only [results, h]
  simp [Sem.run_bind, Result.andThen]
/-- a form as a value -/
def formV (s : ByteArray) (g n : Nat) : Value := .agg #[.string s, .slice (some ⟨g, 0, none⟩) n n]
def fieldsObj (l : List Int) : Obj := .cells (l.map fun n => Value.int .i64 n).toArray 123
set_option maxRecDepth 100000 in
theorem row_any (s : ByteArray) (v : Value) (a : Option Addr) (n m : Nat) (hv : v = .slice a n m) (w : World) :
    Calls Tryz.prog 83 #[.string s, v] w fun e w' => e = .returned (.agg #[.string s, v]) ∧ Below w.heap.size w w' := by
  subst hv
  obtain ⟨w1, hw1⟩ : ∃ w1, w.alloc (.cells #[.string ⟨#[]⟩, .slice none 0 0] 95) = w1 := ⟨_, rfl⟩
  have hx : w1.heap[w.heap.size]? = some (.cells #[.string ⟨#[]⟩, .slice none 0 0] 95 (0, 0)) := by rw [← hw1]; exact heap_alloc_new _ _
  have hB : Below w.heap.size w w1 := by rw [← hw1]; exact (Below.refl _ w).alloc (Nat.le_refl _) _
  have f : ∀ i, w1.frozen? ⟨w.heap.size, i, none⟩ = false := fun i => by simp [World.frozen?, hx]
  have f0 := f 0
  have f1 := f 1
  have c0 : w1.cell? ⟨w.heap.size, 0, none⟩ = some (.string ⟨#[]⟩) := by simp [World.cell?, hx]
  have c1 : w1.cell? ⟨w.heap.size, 1, none⟩ = some (.slice none 0 0) := by simp [World.cell?, hx]
  obtain ⟨u, hu⟩ : ∃ u, w1.setCell ⟨w.heap.size, 0, none⟩ (.string s) = u := ⟨_, rfl⟩
  have hy : u.heap[w.heap.size]? = some (.cells #[.string s, .slice none 0 0] 95 (0, 0)) := by rw [← hu, heap_set hx]; rfl
  have d1 : u.cell? ⟨w.heap.size, 1, none⟩ = some (.slice none 0 0) := by simp [World.cell?, hy]
  have g1 : u.frozen? ⟨w.heap.size, 1, none⟩ = false := by simp [World.frozen?, hy]
  obtain ⟨z, hz⟩ : ∃ z, u.setCell ⟨w.heap.size, 1, none⟩ (.slice a n m) = z := ⟨_, rfl⟩
  have hq : z.heap[w.heap.size]? = some (.cells #[.string s, .slice a n m] 95 (0, 0)) := by rw [← hz, heap_set hy]; rfl
  have q0 : z.cell? ⟨w.heap.size, 0, none⟩ = some (.string s) := by simp [World.cell?, hq]
  have q1 : z.cell? ⟨w.heap.size, 1, none⟩ = some (.slice a n m) := by simp [World.cell?, hq]
  have HB := Lib.hid (show Below w.heap.size w z by rw [← hz, ← hu]; exact (hB.setCell (Nat.le_refl _) _).setCell (Nat.le_refl _) _)
  clear hx hy hB f hq
  go_enter Tryz.func83, Tryz.ntmps83
  go_wp2
  refine bodyPost_ret ?_ rfl ⟨rfl, HB.out⟩
  rw [results_cell_one rfl]
  go_simp
  try rfl
theorem row_new (s : ByteArray) (l : List Int) (n : Nat) (w : World) :
    Calls Tryz.prog 83 #[.string s, .slice (some ⟨w.heap.size, 0, none⟩) n n] (w.alloc (fieldsObj l)) fun e w' => ∃ g, e = .returned (formV s g n) ∧ w'.heap[g]? = some (fieldsObj l) ∧ Below w.heap.size w w' := by
  refine (row_any s _ _ n n rfl _).mono ?_
  rintro e w' ⟨rfl, hB⟩
  have h0 : (w.alloc (fieldsObj l)).heap[w.heap.size]? = some (fieldsObj l) := heap_alloc_new _ _
  exact ⟨w.heap.size, rfl, keeps_of hB h0, ((Below.refl _ w).alloc (Nat.le_refl _) _).trans (hB.mono (by simp))⟩
def formsV (g : Nat → Nat) : Value := .agg #[.string ⟨#[109, 97, 107, 101]⟩, .slice (some ⟨g 0, 0, none⟩) 1 1, .string ⟨#[100, 105, 114]⟩, .slice (some ⟨g 1, 0, none⟩) 1 1, .string ⟨#[119, 114, 105, 116, 101]⟩, .slice (some ⟨g 2, 0, none⟩) 3 3, .string ⟨#[99, 117, 116]⟩, .slice (some ⟨g 3, 0, none⟩) 2 2, .string ⟨#[108, 105, 110, 107]⟩, .slice (some ⟨g 4, 0, none⟩) 2 2, .string ⟨#[114, 101, 110, 97, 109, 101]⟩, .slice (some ⟨g 5, 0, none⟩) 2 2, .string ⟨#[114, 101, 109, 111, 118, 101]⟩, .slice (some ⟨g 6, 0, none⟩) 1 1, .string ⟨#[115, 110, 97, 112]⟩, .slice (some ⟨g 7, 0, none⟩) 1 1, .string ⟨#[117, 110, 115, 110, 97, 112]⟩, .slice (some ⟨g 8, 0, none⟩) 1 1]
/-- the fields of the kinds, in memory -/
def FormsAt (g : Nat → Nat) (w : World) : Prop := ∀ k, k < 9 → w.heap[g k]? = some (fieldsObj ((fldK k).map fldN))
theorem FormsAt.later {g : Nat → Nat} {w w' : World} (h : FormsAt g w) (hB : Below w.heap.size w w') : FormsAt g w' := fun k hk => keeps_of hB (h k hk)
def pick9 (a b c d e f g h i : Nat) : Nat → Nat
  | 0 => a | 1 => b | 2 => c | 3 => d | 4 => e | 5 => f | 6 => g | 7 => h | _ => i
set_option maxRecDepth 100000 in
set_option maxHeartbeats 8000000 in
theorem forms_any (w : World) : Calls Tryz.prog 51 #[] w fun e w' => ∃ g, e = .returned (formsV g) ∧ FormsAt g w' ∧ Below w.heap.size w w' := by
  obtain ⟨w0, hw0⟩ : ∃ w0, w.alloc (.cells #[.string ⟨#[]⟩, .slice none 0 0, .string ⟨#[]⟩, .slice none 0 0, .string ⟨#[]⟩, .slice none 0 0, .string ⟨#[]⟩, .slice none 0 0, .string ⟨#[]⟩, .slice none 0 0, .string ⟨#[]⟩, .slice none 0 0, .string ⟨#[]⟩, .slice none 0 0, .string ⟨#[]⟩, .slice none 0 0, .string ⟨#[]⟩, .slice none 0 0] 96) = w0 := ⟨_, rfl⟩
  have hx0 : w0.heap[w.heap.size]? = some (.cells #[.string ⟨#[]⟩, .slice none 0 0, .string ⟨#[]⟩, .slice none 0 0, .string ⟨#[]⟩, .slice none 0 0, .string ⟨#[]⟩, .slice none 0 0, .string ⟨#[]⟩, .slice none 0 0, .string ⟨#[]⟩, .slice none 0 0, .string ⟨#[]⟩, .slice none 0 0, .string ⟨#[]⟩, .slice none 0 0, .string ⟨#[]⟩, .slice none 0 0] 96 (0, 0)) := by rw [← hw0]; exact heap_alloc_new _ _
  have HX0 := Lib.hid hx0
  have HB0 := Lib.hid (show Below w.heap.size w w0 by rw [← hw0]; exact (Below.refl _ w).alloc (Nat.le_refl _) _)
  clear hx0
  have CR0 := fun W => row_new ⟨#[109, 97, 107, 101]⟩ [0] 1 W
  have CR1 := fun W => row_new ⟨#[100, 105, 114]⟩ [0] 1 W
  have CR2 := fun W => row_new ⟨#[119, 114, 105, 116, 101]⟩ [0, 3, 4] 3 W
  have CR3 := fun W => row_new ⟨#[99, 117, 116]⟩ [0, 3] 2 W
  have CR4 := fun W => row_new ⟨#[108, 105, 110, 107]⟩ [0, 2] 2 W
  have CR5 := fun W => row_new ⟨#[114, 101, 110, 97, 109, 101]⟩ [0, 2] 2 W
  have CR6 := fun W => row_new ⟨#[114, 101, 109, 111, 118, 101]⟩ [0] 1 W
  have CR7 := fun W => row_new ⟨#[115, 110, 97, 112]⟩ [1] 1 W
  have CR8 := fun W => row_new ⟨#[117, 110, 115, 110, 97, 112]⟩ [1] 1 W
  unfold fieldsObj formV at CR0 CR1 CR2 CR3 CR4 CR5 CR6 CR7 CR8
  simp only [List.map_cons, List.map_nil] at CR0 CR1 CR2 CR3 CR4 CR5 CR6 CR7 CR8
  go_enter Tryz.func51, Tryz.ntmps51
  go_wp2_with fail
  refine (CR0 w0).mono ?_
  rintro e w1 ⟨g0, rfl, q0, hB1⟩
  have HX1 := Lib.hid (keeps_of hB1 HX0.out)
  have HB1 := Lib.hid (HB0.out.trans (hB1.mono HB0.out.size))
  clear hB1 CR0
  go_wp2_with fail
  refine (CR1 w1).mono ?_
  rintro e w2 ⟨g1, rfl, q1, hB2⟩
  have HX2 := Lib.hid (keeps_of hB2 HX1.out)
  have HB2 := Lib.hid (HB1.out.trans (hB2.mono HB1.out.size))
  have p0 := keeps_of hB2 q0
  clear q0
  have q0 := p0
  clear p0
  clear hB2 CR1
  go_wp2_with fail
  refine (CR2 w2).mono ?_
  rintro e w3 ⟨g2, rfl, q2, hB3⟩
  have HX3 := Lib.hid (keeps_of hB3 HX2.out)
  have HB3 := Lib.hid (HB2.out.trans (hB3.mono HB2.out.size))
  have p0 := keeps_of hB3 q0
  clear q0
  have q0 := p0
  clear p0
  have p1 := keeps_of hB3 q1
  clear q1
  have q1 := p1
  clear p1
  clear hB3 CR2
  go_wp2_with fail
  refine (CR3 w3).mono ?_
  rintro e w4 ⟨g3, rfl, q3, hB4⟩
  have HX4 := Lib.hid (keeps_of hB4 HX3.out)
  have HB4 := Lib.hid (HB3.out.trans (hB4.mono HB3.out.size))
  have p0 := keeps_of hB4 q0
  clear q0
  have q0 := p0
  clear p0
  have p1 := keeps_of hB4 q1
  clear q1
  have q1 := p1
  clear p1
  have p2 := keeps_of hB4 q2
  clear q2
  have q2 := p2
  clear p2
  clear hB4 CR3
  go_wp2_with fail
  refine (CR4 w4).mono ?_
  rintro e w5 ⟨g4, rfl, q4, hB5⟩
  have HX5 := Lib.hid (keeps_of hB5 HX4.out)
  have HB5 := Lib.hid (HB4.out.trans (hB5.mono HB4.out.size))
  have p0 := keeps_of hB5 q0
  clear q0
  have q0 := p0
  clear p0
  have p1 := keeps_of hB5 q1
  clear q1
  have q1 := p1
  clear p1
  have p2 := keeps_of hB5 q2
  clear q2
  have q2 := p2
  clear p2
  have p3 := keeps_of hB5 q3
  clear q3
  have q3 := p3
  clear p3
  clear hB5 CR4
  go_wp2_with fail
  refine (CR5 w5).mono ?_
  rintro e w6 ⟨g5, rfl, q5, hB6⟩
  have HX6 := Lib.hid (keeps_of hB6 HX5.out)
  have HB6 := Lib.hid (HB5.out.trans (hB6.mono HB5.out.size))
  have p0 := keeps_of hB6 q0
  clear q0
  have q0 := p0
  clear p0
  have p1 := keeps_of hB6 q1
  clear q1
  have q1 := p1
  clear p1
  have p2 := keeps_of hB6 q2
  clear q2
  have q2 := p2
  clear p2
  have p3 := keeps_of hB6 q3
  clear q3
  have q3 := p3
  clear p3
  have p4 := keeps_of hB6 q4
  clear q4
  have q4 := p4
  clear p4
  clear hB6 CR5
  go_wp2_with fail
  refine (CR6 w6).mono ?_
  rintro e w7 ⟨g6, rfl, q6, hB7⟩
  have HX7 := Lib.hid (keeps_of hB7 HX6.out)
  have HB7 := Lib.hid (HB6.out.trans (hB7.mono HB6.out.size))
  have p0 := keeps_of hB7 q0
  clear q0
  have q0 := p0
  clear p0
  have p1 := keeps_of hB7 q1
  clear q1
  have q1 := p1
  clear p1
  have p2 := keeps_of hB7 q2
  clear q2
  have q2 := p2
  clear p2
  have p3 := keeps_of hB7 q3
  clear q3
  have q3 := p3
  clear p3
  have p4 := keeps_of hB7 q4
  clear q4
  have q4 := p4
  clear p4
  have p5 := keeps_of hB7 q5
  clear q5
  have q5 := p5
  clear p5
  clear hB7 CR6
  go_wp2_with fail
  refine (CR7 w7).mono ?_
  rintro e w8 ⟨g7, rfl, q7, hB8⟩
  have HX8 := Lib.hid (keeps_of hB8 HX7.out)
  have HB8 := Lib.hid (HB7.out.trans (hB8.mono HB7.out.size))
  have p0 := keeps_of hB8 q0
  clear q0
  have q0 := p0
  clear p0
  have p1 := keeps_of hB8 q1
  clear q1
  have q1 := p1
  clear p1
  have p2 := keeps_of hB8 q2
  clear q2
  have q2 := p2
  clear p2
  have p3 := keeps_of hB8 q3
  clear q3
  have q3 := p3
  clear p3
  have p4 := keeps_of hB8 q4
  clear q4
  have q4 := p4
  clear p4
  have p5 := keeps_of hB8 q5
  clear q5
  have q5 := p5
  clear p5
  have p6 := keeps_of hB8 q6
  clear q6
  have q6 := p6
  clear p6
  clear hB8 CR7
  go_wp2_with fail
  refine (CR8 w8).mono ?_
  rintro e w9 ⟨g8, rfl, q8, hB9⟩
  have HX9 := Lib.hid (keeps_of hB9 HX8.out)
  have HB9 := Lib.hid (HB8.out.trans (hB9.mono HB8.out.size))
  have p0 := keeps_of hB9 q0
  clear q0
  have q0 := p0
  clear p0
  have p1 := keeps_of hB9 q1
  clear q1
  have q1 := p1
  clear p1
  have p2 := keeps_of hB9 q2
  clear q2
  have q2 := p2
  clear p2
  have p3 := keeps_of hB9 q3
  clear q3
  have q3 := p3
  clear p3
  have p4 := keeps_of hB9 q4
  clear q4
  have q4 := p4
  clear p4
  have p5 := keeps_of hB9 q5
  clear q5
  have q5 := p5
  clear p5
  have p6 := keeps_of hB9 q6
  clear q6
  have q6 := p6
  clear p6
  have p7 := keeps_of hB9 q7
  clear q7
  have q7 := p7
  clear p7
  clear hB9 CR8
  have HQ := Lib.hid (show FormsAt (pick9 g0 g1 g2 g3 g4 g5 g6 g7 g8) w9 from fun k hk => by
    rcases below9 hk with rfl | rfl | rfl | rfl | rfl | rfl | rfl | rfl | rfl <;> assumption)
  clear q0 q1 q2 q3 q4 q5 q6 q7 q8
  obtain ⟨C, hC⟩ : ∃ C : Array Value, #[.string ⟨#[109, 97, 107, 101]⟩, .slice (some ⟨g0, 0, none⟩) 1 1, .string ⟨#[100, 105, 114]⟩, .slice (some ⟨g1, 0, none⟩) 1 1, .string ⟨#[119, 114, 105, 116, 101]⟩, .slice (some ⟨g2, 0, none⟩) 3 3, .string ⟨#[99, 117, 116]⟩, .slice (some ⟨g3, 0, none⟩) 2 2, .string ⟨#[108, 105, 110, 107]⟩, .slice (some ⟨g4, 0, none⟩) 2 2, .string ⟨#[114, 101, 110, 97, 109, 101]⟩, .slice (some ⟨g5, 0, none⟩) 2 2, .string ⟨#[114, 101, 109, 111, 118, 101]⟩, .slice (some ⟨g6, 0, none⟩) 1 1, .string ⟨#[115, 110, 97, 112]⟩, .slice (some ⟨g7, 0, none⟩) 1 1, .string ⟨#[117, 110, 115, 110, 97, 112]⟩, .slice (some ⟨g8, 0, none⟩) 1 1] = C := ⟨_, rfl⟩
  have hCs : C.size = 18 := by rw [← hC]; rfl
  have hth : w9.there w.heap.size 0 C.size := fun j hj => by
    rw [hCs] at hj
    have h9 := HX9.out
    refine ⟨?_, by simp [World.frozen?, h9]⟩
    simp only [World.cell?, h9, Nat.zero_add]
    rw [Array.getElem?_eq_getElem (by simpa using hj)]
    rfl
  have hi : (Tryz.prog.info? 96).map (·.size) = some C.size := by rw [hCs]; kernel_rfl
  have h1 : C.all (·.oneCell') = true := by rw [← hC]; simp [Value.oneCell']
  obtain ⟨U, hU⟩ : ∃ U, w9.setCells w.heap.size 0 C.toList = U := ⟨_, rfl⟩
  have hld : (loadVar 96 ⟨w.heap.size, 0, none⟩).run Tryz.prog U = .ok (.agg C) U := by
    have h := run_loadVar_mid (P := Tryz.prog) U w.heap.size 0 96 C.toList _ (by rw [← hU]; exact World.rangeAt_setCells_same w9 w.heap.size 0 C.toList (by simpa using hth)) Tryz.underlying96 rfl (by rw [hi]; simp)
    simpa using h
  have HL := Lib.hid hld
  have HBU := Lib.hid (show Below w.heap.size w U by rw [← hU]; exact below_setCells (Nat.le_refl _) _ _ _ HB9.out)
  have HQU := Lib.hid (show FormsAt (pick9 g0 g1 g2 g3 g4 g5 g6 g7 g8) U from fun k hk => by
    have h9 := HQ.out k hk
    have hne : pick9 g0 g1 g2 g3 g4 g5 g6 g7 g8 k ≠ w.heap.size := fun e => by
      have := HX9.out
      rw [← e, h9] at this
      simp [fieldsObj] at this
    rw [← hU, World.heap_setCells_other _ _ _ _ (lt_of_heap h9) hne]
    exact h9)
  have HF := Lib.hid (show formsV (pick9 g0 g1 g2 g3 g4 g5 g6 g7 g8) = .agg C by rw [← hC]; rfl)
  have HU := Lib.hid hU
  clear hld HQ hU hCs
  go_wp2_with (first | (refine wpList_store_mid rfl 96 (.tmp 0) (.tmp 19) rfl w.heap.size 0 C (by rfl) (by first | exact congrArg Value.agg hC | rfl) hth hi h1 ?_; rw [HU.out]))
  refine bodyPost_ret ?_ rfl ⟨pick9 g0 g1 g2 g3 g4 g5 g6 g7 g8, congrArg Ending.returned HF.out.symm, HQU.out, HBU.out⟩
  rw [results_cell_one rfl]
  exact HL.out
end Go.Proofs.YtfokdmijkniomaaGreatDoor

namespace Go.Proofs.YtfokdmijkniomaaGreatDoor
open Go.RowKit Go

theorem owns_made (w : World) {B : Nat} (hB : B ≤ w.heap.size) (x : Value) (t : TypeId) : (w.alloc (.cells #[x] t)).ownsRow B t 1 (.slice (some ⟨w.heap.size, 0, none⟩) 1 1) 1 [x] :=
  ⟨rfl, .inr ⟨w.heap.size, 1, #[x], rfl, hB, heap_alloc_new _ _, Nat.le_refl _, by unfold maxLen; omega, rfl, rfl⟩⟩
theorem words_take (k i : Nat) (c : Cmd) (h : i < (fldK k).length) : strVs (wordK k :: ((fldK k).take (i + 1)).map (fldLay c)) = strVs (wordK k :: ((fldK k).take i).map (fldLay c)) ++ [.string (fldLay c (fldK k)[i])] := by
  rw [List.take_succ_eq_append_getElem h, List.map_append, List.map_singleton, ← List.cons_append, strVs_snoc]
theorem fields_cell {w : World} {g k i : Nat} (h : w.heap[g]? = some (fieldsObj ((fldK k).map fldN))) (hi : i < (fldK k).length) : w.cell? ⟨g, i, none⟩ = some (.int .i64 (fldN (fldK k)[i])) := by
  unfold fieldsObj at h
  simp [World.cell?, h, hi]
/-- a row of texts is no command -/
theorem row_not_cmd {w : World} {B b n : Nat} {v : Value} {xs : List Value} {c : Cmd} (h : w.ownsRow B 9 1 v n xs) (k : CmdAt c b w) : v.ownBlock ≠ some b := by
  intro e
  obtain ⟨C, hC⟩ := owns_block h e
  have := k.obj
  rw [hC] at this
  unfold CmdObj at this
  simp at this
set_option maxRecDepth 100000 in
set_option maxHeartbeats 4000000 in
theorem lay_any (k : Nat) (hk : k < 9) (c : Cmd) (hc : CmdIn c) (hd : c.data.size ≤ 512) (hlen : (lineK k c).length ≤ 140737488355328) (g : Nat) (w : World) (hfa : w.heap[g]? = some (fieldsObj ((fldK k).map fldN))) (hg : GE w) :
    Calls Tryz.prog 50 #[formV (wordK k) g (fldK k).length, cmdV c] w fun e w' => e = .returned (.string (bs (lineK k c))) ∧ Below w.heap.size w w' := by
  obtain ⟨W0, hW0⟩ : ∃ W0, wordK k = W0 := ⟨_, rfl⟩
  obtain ⟨m, hm⟩ : ∃ m, (fldK k).length = m := ⟨_, rfl⟩
  have hm3 : m ≤ 3 := by rw [← hm]; exact (fldK_len hk).2
  obtain ⟨w1, hw1⟩ : ∃ w1, w.alloc (.cells #[.string W0, .slice (some ⟨g, 0, none⟩) m m] 95) = w1 := ⟨_, rfl⟩
  have hB1 : Below w.heap.size w w1 := by rw [← hw1]; exact (Below.refl _ w).alloc (Nat.le_refl _) _
  have hx1 : w1.heap[w.heap.size]? = some (.cells #[.string W0, .slice (some ⟨g, 0, none⟩) m m] 95 (0, 0)) := by rw [← hw1]; exact heap_alloc_new _ _
  obtain ⟨w2, hw2⟩ : ∃ w2, w1.alloc (CmdObj c) = w2 := ⟨_, rfl⟩
  have hB2 : Below w1.heap.size w1 w2 := by rw [← hw2]; exact (Below.refl _ w1).alloc (Nat.le_refl _) _
  have hx2 := keeps_of hB2 hx1
  have hat2 : CmdAt c w1.heap.size w2 := by rw [← hw2]; exact .new _ _
  obtain ⟨w3, hw3⟩ : ∃ w3, w2.alloc (.cells #[.string W0] 9) = w3 := ⟨_, rfl⟩
  have hB3 : Below w2.heap.size w2 w3 := by rw [← hw3]; exact (Below.refl _ w2).alloc (Nat.le_refl _) _
  have hs12 : w.heap.size ≤ w2.heap.size := Nat.le_trans hB1.size hB2.size
  have hrow3 : w3.ownsRow w.heap.size 9 1 (.slice (some ⟨w2.heap.size, 0, none⟩) 1 1) 1 [.string W0] := by rw [← hw3]; exact owns_made w2 hs12 _ _
  have p0 : w2.cell? ⟨w.heap.size, 0, none⟩ = some (.string W0) := by simp [World.cell?, hx2]
  have p1 : w3.cell? ⟨w.heap.size, 1, none⟩ = some (.slice (some ⟨g, 0, none⟩) m m) := by have := keeps_of hB3 hx2; simp [World.cell?, this]
  have hB13 : Below w.heap.size w w3 := (hB1.trans (hB2.mono hB1.size)).trans (hB3.mono hs12)
  have HB13 := Lib.hid hB13
  have HA := Lib.hid (hat2.later hB3)
  have HFA := Lib.hid (show ∀ W, Below w.heap.size w W → ∀ i (h : i < (fldK k).length), W.cell? ⟨g, i, none⟩ = some (.int .i64 (fldN (fldK k)[i])) from fun W h i hi => fields_cell (keeps_of h hfa) hi)
  have HL := Lib.hid hlen
  have HM := Lib.hid hm
  have HW0 := Lib.hid hW0
  have HG := Lib.hid hg
  have HC := Lib.hid hc
  have hR0 : Hid (w3.ownsRow w.heap.size 9 1 (.slice (some ⟨w2.heap.size, 0, none⟩) 1 1) (0 + 1) (strVs (wordK k :: ((fldK k).take 0).map (fldLay c)))) := Lib.hid (by rw [hW0]; exact hrow3)
  obtain ⟨i0, hi, hz0, hz1, hz2⟩ := info_parts info9
  have hsz3 := hB13.size
  unfold formV
  rw [hW0, hm]
  unfold cmdV
  unfold CmdObj at hw2
  clear hx1 hx2 hat2 hB1 hB2 hB3 hB13 hrow3 hfa hg hc hlen hm hW0
  go_enter Tryz.func50, Tryz.ntmps50
  go_wp2
  go_loopw [5, 14] (fun v i wr => ∃ j : Nat, j ≤ m ∧ i = .int .i64 j ∧ Hid (wr.ownsRow w.heap.size 9 1 v (j + 1) (strVs (wordK k :: ((fldK k).take j).map (fldLay c)))) ∧ Hid (Below w.heap.size w wr) ∧ Hid (CmdAt c w1.heap.size wr)) (fun _ i _ => m - (intOf i).toNat)
  case atStart => exact ⟨0, Nat.zero_le _, rfl, hR0, HB13, HA⟩
  case round =>
    clear hw1 hw2 hw3 p0 p1
    obtain ⟨j, hj, rfl, HR, HB, HAr⟩ := hrel
    by_cases hlt : j < m
    · have hji : (j : Int) < (m : Int) := by omega
      have hjl : j < (fldK k).length := by rw [HM.out]; exact hlt
      have hcell := HFA.out wr HB.out j hjl
      have HS := Lib.hid (words_take k j c hjl)
      obtain ⟨c0, c1, c2, c3, c4⟩ := HAr.out.cells
      have CF := fldLay_any (fldK k)[j] c HC.out hd wr (HG.out.below HB.out)
      unfold cmdV at CF
      generalize fldLay c (fldK k)[j] = X at *
      generalize fldN (fldK k)[j] = F at *
      have hsz := HB.out.size
      clear hjl
      go_wp2_with fail
      refine CF.mono ?_
      rintro e w4 ⟨rfl, hB4⟩
      have hrow4 := owns_keep HR.out (fun b hb => hB4.block b (HR.out.lt b hb).2)
      have HB4 := Lib.hid (HB.out.trans (hB4.mono hsz))
      have HA4 := Lib.hid (HAr.out.later hB4)
      have hsz4 := Nat.le_trans hsz hB4.size
      clear hB4 CF c0 c1 c2 c3 c4 hcell
      go_wp2_with (at_builtin; go_loud (refine wpList_append_own _ rfl _ _ 45 rfl w.heap.size 9 i0 (.string ⟨#[]⟩) 1 16 Tryz.underlying45 hi hz0 hz1 hz2 rfl (by decide) _ _ _ rfl (hrow4.alloc _) ⟨w4.heap.size, 0, none⟩ 1 1 [.string X] rfl rfl (cell_one_made _ _ _) (by simp [Value.oneCell']) (by unfold maxLen; omega) (by omega) (Nat.le_trans hsz4 (by simp)) ?_; intro v' w5 hown' hgrow _; have HB5 := Lib.hid (HB4.out.trans (((Below.refl _ w4).alloc hsz4 _).grown hgrow (by simp; omega) (fun j ej => (hrow4.lt j ej).1))); have HO := Lib.hid hown'; have HA5 := Lib.hid (show CmdAt c w1.heap.size w5 from ⟨(hgrow.block w1.heap.size (Nat.lt_of_lt_of_le (lt_of_heap HA4.out.obj) (by simp)) (Ne.symm (row_not_cmd hrow4 HA4.out))).trans (heap_alloc_old HA4.out.obj _)⟩); clear hown' hgrow))
      go_roundw
      case rel => exact ⟨j + 1, hlt, by go_num, Lib.hid (by rw [HS.out]; exact HO.out), HB5, HA5⟩
      case measure => simp [intOf]; omega
    · obtain rfl : j = m := by omega
      have hl : (fldK k).take j = fldK k := List.take_of_length_le (by rw [HM.out]; exact Nat.le_refl _)
      have hrow := HR.out
      rw [hl] at hrow
      have hwl : (wordsC k c).length = j + 1 := by rw [fldLay_len, HM.out]
      have CJ := join_any _ (wordsC k c) wr w.heap.size (by rw [hwl]; exact hrow) (by simp [wordsC]) (by omega) HL.out
      have HB' := HB
      have hsz := HB.out.size
      clear hl hrow hwl
      go_wp2_with fail
      refine CJ.mono ?_
      rintro e w5 ⟨rfl, hB5⟩
      have HB5 := Lib.hid (HB.out.trans (hB5.mono hsz))
      clear hB5 CJ
      go_wp2
      go_ret
      exact ⟨rfl, HB5.out⟩
end Go.Proofs.YtfokdmijkniomaaGreatDoor

