/-
  A command's fields as words: data, places; laid and read.
-/
import Derived.Test.YtmloljjllmmkoaaDoorCmdA
import Derived.Test.YtmloljjllmmkoaaDoorKitG
import Derived.Test.YtmloljjllmmkoaaDoorKitH
import Derived.Test.YtmloljjllmmkoaaDoorKitA
import Derived.Test.YtmloljjllmmkoaaDoorKitB
import Derived.Deep.RegionHeldLaw
namespace Go.Proofs.YtmloljjllmmkoaaDoor
open Go.RowKit Go

def hexT : ByteArray := ⟨#[48, 49, 50, 51, 52, 53, 54, 55, 56, 57, 97, 98, 99, 100, 101, 102]⟩
theorem hexT_at {n : Nat} (h : n < 16) : hexT[n]'(by show n < 16; exact h) = hexD n := by
  have : ∀ k : Fin 16, hexT[k.val]'(by show k.val < 16; exact k.isLt) = hexD k.val := by decide +kernel
  exact this ⟨n, h⟩
/-- which digit a byte is -/
def hexI (c : UInt8) : Int := Lib.indexByte hexT.data.toList c
theorem hexI_D {n : Nat} (h : n < 16) : hexI (hexD n) = n := by
  have : ∀ k : Fin 16, hexI (hexD k.val) = (k.val : Int) := by decide +kernel
  exact this ⟨n, h⟩
theorem hexI_of {c : UInt8} (h : 0 ≤ hexI c) : ∃ n : Nat, n < 16 ∧ c = hexD n ∧ hexI c = n := by
  have : ∀ k : Fin 256, 0 ≤ hexI (UInt8.ofNat k.val) → ∃ n : Fin 16, UInt8.ofNat k.val = hexD n.val ∧ hexI (UInt8.ofNat k.val) = (n.val : Int) := by decide +kernel
  have h2 := this ⟨c.toNat, c.toNat_lt⟩
  simp only [UInt8.ofNat_toNat] at h2
  obtain ⟨n, h3, h4⟩ := h2 h
  exact ⟨n.val, n.isLt, h3, h4⟩
theorem hexI_ge (c : UInt8) : -1 ≤ hexI c := Lib.indexByte_ge _ _
theorem hex_any (c : UInt8) (w : World) : Calls Tryd.prog 32 #[.string ⟨#[48, 49, 50, 51, 52, 53, 54, 55, 56, 57, 97, 98, 99, 100, 101, 102]⟩, .int .u8 (c.toNat : Int)] w fun e w' => e = .returned (.int .i64 (hexI c)) ∧ w = w' := by
  have h := Any.strings_IndexByte Tryd.lays137 ⟨#[48, 49, 50, 51, 52, 53, 54, 55, 56, 57, 97, 98, 99, 100, 101, 102]⟩ (c.toNat : Int) w
  have e : (c.toNat : Int).toNat.toUInt8 = c := by simp
  rw [e] at h
  exact h.mono fun _ _ ⟨h1, h2⟩ => ⟨h1, h2.symm⟩
theorem hex_byte {m n : Nat} (hm : m < 16) (hn : n < 16) : ∃ b : UInt8, hexB b = [hexD m, hexD n] ∧ ((m : Int) * 16 + n).emod 256 = (b.toNat : Int) ∧ b.toNat = 16 * m + n := by
  refine ⟨UInt8.ofNat (16 * m + n), ?_, ?_, ?_⟩
  · have e : (UInt8.ofNat (16 * m + n)).toNat = 16 * m + n := by simp; omega
    unfold hexB
    rw [e, show (16 * m + n) / 16 = m by omega, show (16 * m + n) % 16 = n by omega]
  · have e : (UInt8.ofNat (16 * m + n)).toNat = 16 * m + n := by simp; omega
    rw [e]
    show ((m : Int) * 16 + n) % 256 = _
    omega
  · simp; omega

/-! ### Data as words -/
theorem take_hex {s : ByteArray} {j : Nat} (h : j < s.size) : (s.data.toList.take (j + 1)).flatMap hexB = (s.data.toList.take j).flatMap hexB ++ hexB s[j] := by
  have hl : j < s.data.toList.length := by simpa using h
  rw [List.take_succ_eq_append_getElem hl, List.flatMap_append]
  simp; rfl
set_option maxRecDepth 100000 in
set_option maxHeartbeats 4000000 in
theorem layData_any (s : ByteArray) (hs : s.size ≤ 1048576) (w : World) :
    Calls Tryd.prog 45 #[.string s] w fun e w' => e = .returned (.string (bs (hexW s.data.toList))) ∧ Below w.heap.size w w' := by
  by_cases h0 : s.size = 0
  · obtain rfl : s = ⟨#[]⟩ := ByteArray.ext (Array.eq_empty_of_size_eq_zero h0)
    clear h0
    go_enter Tryd.func45, Tryd.ntmps45
    go_wp2
    go_ret
    exact ⟨rfl, Below.refl _ _⟩
  · have hne : s.data.toList ≠ [] := fun e => h0 (by rw [← len_of, e]; rfl)
    have b0 : s.toList.isEmpty = false := by rw [toList_eq]; cases h : s.data.toList with | nil => exact absurd h hne | cons _ _ => rfl
    have HW := Lib.hid (show hexW s.data.toList = s.data.toList.flatMap hexB by simp [hexW, hne])
    obtain ⟨i0, hi, hz0, hz1, hz2⟩ := info_parts info5
    clear hne
    go_enter Tryd.func45, Tryd.ntmps45
    go_wp2
    go_loopw [3, 9] (fun v i wr => ∃ j : Nat, j ≤ s.size ∧ i = .int .i64 j ∧ wr.ownsRow w.heap.size 5 1 v (2 * j) (u8s ((s.data.toList.take j).flatMap hexB)) ∧ Below w.heap.size w wr) (fun _ i _ => s.size - (intOf i).toNat)
    case atStart => exact ⟨0, Nat.zero_le _, rfl, World.ownsRow_nil _ _ _ _, Below.refl _ _⟩
    case round =>
      obtain ⟨j, hj, rfl, hrow, hB⟩ := hrel
      by_cases hlt : j < s.size
      · have hji : (j : Int) < (s.size : Int) := by omega
        have HT := Lib.hid (take_hex hlt)
        have hb := s[j].toNat_lt
        obtain ⟨q, hq⟩ : ∃ q, s[j].toNat / 16 = q := ⟨_, rfl⟩
        obtain ⟨r, hr⟩ : ∃ r, s[j].toNat % 16 = r := ⟨_, rfl⟩
        have e1 : ((s[j].toNat : Nat) : Int) / 16 = (q : Int) := by omega
        have e2 : ((s[j].toNat : Nat) : Int) % 16 = (r : Int) := by omega
        have hq1 : (q : Int) < 16 := by omega
        have hr1 : (r : Int) < 16 := by omega
        have HX := Lib.hid (show hexB s[j] = [hexD q, hexD r] by unfold hexB; rw [hq, hr])
        have x1 : ∀ h, (⟨#[48, 49, 50, 51, 52, 53, 54, 55, 56, 57, 97, 98, 99, 100, 101, 102]⟩ : ByteArray)[q]'h = hexD q := fun _ => hexT_at (by omega)
        have x2 : ∀ h, (⟨#[48, 49, 50, 51, 52, 53, 54, 55, 56, 57, 97, 98, 99, 100, 101, 102]⟩ : ByteArray)[r]'h = hexD r := fun _ => hexT_at (by omega)
        have w1 : IntKind.u8.wrap (q : Int) = (q : Int) := by simp [IntKind.wrap, IntKind.bits, IntKind.signed]; omega
        have w2 : IntKind.u8.wrap (r : Int) = (r : Int) := by simp [IntKind.wrap, IntKind.bits, IntKind.signed]; omega
        have t1 : ((s[j].toNat : Nat) : Int).tdiv 16 = (q : Int) := by rw [Int.tdiv_eq_ediv_of_nonneg (by omega)]; exact e1
        have t2 : ((s[j].toNat : Nat) : Int).tmod 16 = (r : Int) := by rw [Int.tmod_eq_emod_of_nonneg (by omega)]; exact e2
        clear hq hr
        have hrd : wr.drew.ownsRow w.heap.size 5 1 u3 (2 * j) (u8s ((s.data.toList.take j).flatMap hexB)) := hrow
        have hsz := hB.size
        go_upto_region 7 with fail
        refine wp_region_any (by kernel_rfl) ?_
        change wpAny _ _ _ _ _ _ _ (World.drew _)
        refine take_one 12 (i := 0) (v := u3) rfl rfl (by kernel_rfl) (by kernel_rfl) (by kernel_rfl) (fun _ _ _ h => h) (Or.inl ⟨by kernel_rfl, fun w => by (go_simp)⟩) ?_
        simp only [Act.put, List.setIfInBounds_toArray, List.set_cons_zero, List.set_cons_succ]
        refine take_one 13 (i := 1) (v := .string s) rfl rfl (by kernel_rfl) (by kernel_rfl) (by kernel_rfl) (fun _ _ _ h => h) (Or.inl ⟨by kernel_rfl, fun w => by (go_simp)⟩) ?_
        simp only [Act.put, List.setIfInBounds_toArray, List.set_cons_zero, List.set_cons_succ]
        refine take_one 14 (i := 2) (v := .int .i64 j) rfl rfl (by kernel_rfl) (by kernel_rfl) (by kernel_rfl) (fun _ _ _ h => h) (Or.inl ⟨by kernel_rfl, fun w => by (go_simp)⟩) ?_
        simp only [Act.put, List.setIfInBounds_toArray, List.set_cons_zero, List.set_cons_succ]
        refine take_one 15 (i := 3) (v := .int .u8 (s[j].toNat : Int)) rfl rfl (by kernel_rfl) (by kernel_rfl) (by kernel_rfl) (fun _ _ _ h => h) (Or.inl ⟨by kernel_rfl, fun w => by (go_simp)⟩) ?_
        simp only [Act.put, List.setIfInBounds_toArray, List.set_cons_zero, List.set_cons_succ]
        refine take_one 16 (i := 4) (v := .int .u8 (q : Int)) rfl rfl (by kernel_rfl) (by kernel_rfl) (by kernel_rfl) (fun _ _ _ h => h) (Or.inl ⟨by kernel_rfl, fun w => by (go_simp)⟩) ?_
        simp only [Act.put, List.setIfInBounds_toArray, List.set_cons_zero, List.set_cons_succ]
        refine take_one 17 (i := 5) (v := .int .u8 ((hexD q).toNat : Int)) rfl rfl (by kernel_rfl) (by kernel_rfl) (by kernel_rfl) (fun _ _ _ h => h) (Or.inl ⟨by kernel_rfl, fun w => by (go_simp)⟩) ?_
        simp only [Act.put, List.setIfInBounds_toArray, List.set_cons_zero, List.set_cons_succ]
        refine take_one 18 (i := 6) (v := .string s) rfl rfl (by kernel_rfl) (by kernel_rfl) (by kernel_rfl) (fun _ _ _ h => h) (Or.inl ⟨by kernel_rfl, fun w => by (go_simp)⟩) ?_
        simp only [Act.put, List.setIfInBounds_toArray, List.set_cons_zero, List.set_cons_succ]
        refine take_one 19 (i := 7) (v := .int .i64 j) rfl rfl (by kernel_rfl) (by kernel_rfl) (by kernel_rfl) (fun _ _ _ h => h) (Or.inl ⟨by kernel_rfl, fun w => by (go_simp)⟩) ?_
        simp only [Act.put, List.setIfInBounds_toArray, List.set_cons_zero, List.set_cons_succ]
        refine take_one 20 (i := 8) (v := .int .u8 (s[j].toNat : Int)) rfl rfl (by kernel_rfl) (by kernel_rfl) (by kernel_rfl) (fun _ _ _ h => h) (Or.inl ⟨by kernel_rfl, fun w => by (go_simp)⟩) ?_
        simp only [Act.put, List.setIfInBounds_toArray, List.set_cons_zero, List.set_cons_succ]
        refine take_one 21 (i := 9) (v := .int .u8 (r : Int)) rfl rfl (by kernel_rfl) (by kernel_rfl) (by kernel_rfl) (fun _ _ _ h => h) (Or.inl ⟨by kernel_rfl, fun w => by (go_simp)⟩) ?_
        simp only [Act.put, List.setIfInBounds_toArray, List.set_cons_zero, List.set_cons_succ]
        refine take_one 22 (i := 10) (v := .int .u8 ((hexD r).toNat : Int)) rfl rfl (by kernel_rfl) (by kernel_rfl) (by kernel_rfl) (fun _ _ _ h => h) (Or.inl ⟨by kernel_rfl, fun w => by (go_simp)⟩) ?_
        simp only [Act.put, List.setIfInBounds_toArray, List.set_cons_zero, List.set_cons_succ]
        refine wpAny_ready (rs := [11]) (by kernel_rfl) (by simp) ?_
        refine AllReady.cons rfl (fun K hK => ?_) (AllReady.nil)
        go_simp
        refine hK _ _ ?_
        clear hK K
        refine wpAny_ready (rs := [12]) (by kernel_rfl) (by simp) ?_
        refine AllReady.cons rfl (fun K hK => ?_) (AllReady.nil)
        refine step_append_own _ (by rfl) (.tmp 12) (.tmp 23) _ (by rfl) w.heap.size 5 i0 (.int .u8 0) 1 1 Tryd.underlying51 hi hz0 hz1 hz2 rfl (by decide) _ (2 * j) _ (by rfl) (hrd.alloc _) ⟨wr.heap.size, 0, none⟩ 2 2 [.int .u8 ((hexD q).toNat : Int), .int .u8 ((hexD r).toNat : Int)] (by rfl) rfl (cell_two_new _ _ _ _) (by simp [Value.oneCell']) (by unfold maxLen; omega) (by omega) (Nat.le_trans hsz (by simp)) ?_
        intro v' w3 hown' hgrow _ _
        have HB4 := Lib.hid (hB.drew.trans (((Below.refl _ wr.drew).alloc hsz _).grown hgrow (by simp; omega) (fun j ej => (hrow.lt j ej).1)))
        have HO := Lib.hid hown'
        clear hown' hgrow
        go_simp
        refine hK _ _ ?_
        clear hK K
        refine take_one 3 (i := 13) (v := v') rfl rfl (by kernel_rfl) (by kernel_rfl) (by kernel_rfl) (fun _ _ _ h => h) (Or.inl ⟨by kernel_rfl, fun w => by (go_simp)⟩) ?_
        simp only [Act.put, List.setIfInBounds_toArray, List.set_cons_zero, List.set_cons_succ]
        refine wpAny_done (by kernel_rfl) ?_ _
        go_wp2
        go_roundw
        case rel => exact ⟨j + 1, hlt, by go_num, by rw [HT.out, HX.out, u8s_app]; exact HO.out, HB4.out⟩
        case measure => simp [intOf]; omega
      · obtain rfl : j = s.size := by omega
        have HE := Lib.hid (show (s.data.toList.take s.size).flatMap hexB = hexW s.data.toList by rw [HW.out, List.take_of_length_le (by simp)])
        have hl : (hexW s.data.toList).length = 2 * s.size := by rw [HW.out, flat_hex_len]; simp
        rw [HE.out, ← hl] at hrow
        have hcv := conv_own wr w.heap.size _ _ hrow
        have HB := Lib.hid hB
        clear hB hrow hl
        go_wp2
        go_ret
        exact ⟨rfl, HB.out⟩
theorem unW {s : ByteArray} {d : ByteArray} (h : DatW d s) (hne : s.data.toList ≠ [45]) : d.data.toList ≠ [] ∧ s.data.toList = d.data.toList.flatMap hexB := by
  obtain ⟨_, h2⟩ := h
  unfold hexW at h2
  split at h2
  · exact absurd h2.symm hne
  · exact ⟨by assumption, h2.symm⟩
/-- how far the bytes are read -/
def ReadTo (s : ByteArray) (j : Nat) (l : List UInt8) : Prop := l.length = j ∧ s.data.toList.take (2 * j) = l.flatMap hexB
theorem ReadTo.next {s : ByteArray} {j m n : Nat} {l : List UInt8} {b : UInt8} (h : ReadTo s j l) (hj : 2 * j + 1 < s.size) (h1 : s[2 * j] = hexD m) (h2 : s[2 * j + 1] = hexD n) (hb : hexB b = [hexD m, hexD n]) : ReadTo s (j + 1) (l ++ [b]) := by
  have hs : s.data.toList.length = s.size := Array.length_toList (xs := s.data)
  refine ⟨by simp [h.1], ?_⟩
  rw [show 2 * (j + 1) = 2 * j + 1 + 1 by omega, List.take_succ_eq_append_getElem (by omega), List.take_succ_eq_append_getElem (by omega), h.2, List.flatMap_append]
  have e1 : s.data.toList[2 * j]'(by omega) = hexD m := h1
  have e2 : s.data.toList[2 * j + 1]'(by omega) = hexD n := h2
  rw [e1, e2]
  simp [hb]
theorem flat_at {l : List UInt8} {j : Nat} (h : j < l.length) : (l.flatMap hexB)[2 * j]? = some (hexD (l[j].toNat / 16)) ∧ (l.flatMap hexB)[2 * j + 1]? = some (hexD (l[j].toNat % 16)) := by
  induction l generalizing j with
  | nil => simp at h
  | cons b l ih =>
    cases j with
    | zero => exact ⟨rfl, rfl⟩
    | succ j =>
      have := ih (j := j) (by simpa using h)
      exact this
/-- no byte's digits: no word of bytes -/
theorem not_word {s : ByteArray} {j : Nat} (hj : 2 * j + 1 < s.size) (hne : s.data.toList ≠ [45]) (h : hexI s[2 * j] < 0 ∨ hexI s[2 * j + 1] < 0) (d : ByteArray) : ¬ DatW d s := by
  intro hw
  obtain ⟨_, e⟩ := unW hw hne
  have hs : s.data.toList.length = s.size := Array.length_toList (xs := s.data)
  have hl := congrArg List.length e
  rw [flat_hex_len] at hl
  have h1 : j < d.data.toList.length := by omega
  obtain ⟨f1, f2⟩ := flat_at h1
  rw [← e] at f1 f2
  have g1 : s[2 * j] = hexD (d.data.toList[j].toNat / 16) := (List.getElem?_eq_some_iff.1 f1).2
  have g2 : s[2 * j + 1] = hexD (d.data.toList[j].toNat % 16) := (List.getElem?_eq_some_iff.1 f2).2
  have hb := byte_16 d.data.toList[j]
  rw [g1, g2, hexI_D hb.1, hexI_D hb.2] at h
  omega
theorem not_word' {s : ByteArray} {j p q : Nat} (hp : 2 * j = p) (hq : 2 * j + 1 = q) (h1 : p < s.size) (h2 : q < s.size) (hne : s.data.toList ≠ [45]) (h : hexI s[p] < 0 ∨ hexI s[q] < 0) (d : ByteArray) : ¬ DatW d s := by
  subst hp hq
  exact not_word h2 hne h d
theorem ReadTo.next' {s : ByteArray} {j m n p q : Nat} {l : List UInt8} {b : UInt8} (h : ReadTo s j l) (hp : 2 * j = p) (hq : 2 * j + 1 = q) (h1 : p < s.size) (h2 : q < s.size) (e1 : s[p] = hexD m) (e2 : s[q] = hexD n) (hb : hexB b = [hexD m, hexD n]) : ReadTo s (j + 1) (l ++ [b]) := by
  subst hp hq
  exact h.next h2 e1 e2 hb
theorem word_odd {s : ByteArray} (h : s.data.toList = [] ∨ 1024 < s.size ∨ s.size % 2 ≠ 0) (hne : s.data.toList ≠ [45]) (d : ByteArray) : ¬ DatW d s := by
  intro hw
  obtain ⟨h1, e⟩ := unW hw hne
  have hs : s.data.toList.length = s.size := Array.length_toList (xs := s.data)
  have hd : d.data.toList.length = d.size := Array.length_toList (xs := d.data)
  have hl := congrArg List.length e
  rw [flat_hex_len] at hl
  have := hw.1
  have h0 : d.data.toList.length ≠ 0 := fun k => h1 (List.eq_nil_of_length_eq_zero k)
  rcases h with h | h | h
  · rw [h] at hl; simp at hl; omega
  · omega
  · omega
/-- what readData answers -/
def DataE (s : ByteArray) (e : Ending) : Prop := (∃ d, DatW d s ∧ e = .returned (.tuple #[.string d, .bool true])) ∨ ((∀ d, ¬ DatW d s) ∧ ∃ x, e = .returned (.tuple #[.string x, .bool false]))
theorem ReadTo.done {s : ByteArray} {j : Nat} {l : List UInt8} (h : ReadTo s j l) (hj : 2 * j = s.size) (h0 : s.data.toList ≠ []) (h1 : s.size ≤ 1024) : DatW (bs l) s := by
  have hs : s.data.toList.length = s.size := Array.length_toList (xs := s.data)
  have e := h.2
  rw [List.take_of_length_le (by omega)] at e
  have hl : l ≠ [] := by rintro rfl; exact h0 e
  exact ⟨by rw [bs_size, h.1]; omega, by rw [bs_list, hexW, if_neg hl, e]⟩
set_option maxRecDepth 100000 in
set_option maxHeartbeats 4000000 in
theorem readData_any (s : ByteArray) (w : World) :
    Calls Tryd.prog 50 #[.string s] w fun e w' => DataE s e ∧ Below w.heap.size w w' := by
  have hs : s.data.toList.length = s.size := Array.length_toList (xs := s.data)
  by_cases h1 : s.toList = [45]
  · have b1 : (s.toList == [45]) = true := beq_iff_eq.2 h1
    have HE := Lib.hid (show DatW ⟨#[]⟩ s from ⟨by decide, by rw [← toList_eq s, h1]; rfl⟩)
    clear h1 hs
    go_enter Tryd.func50, Tryd.ntmps50
    go_wp2
    go_ret2
    exact ⟨.inl ⟨_, HE.out, rfl⟩, Below.refl _ _⟩
  · have b1 : (s.toList == [45]) = false := beq_eq_false_iff_ne.2 h1
    rw [toList_eq] at h1
    by_cases h2 : s.data.toList = []
    · have b2 : s.toList.isEmpty = true := by rw [toList_eq, h2]; rfl
      have HE := Lib.hid (word_odd (.inl h2) h1)
      have hz : (s.size : Int) = 0 := by rw [h2] at hs; simp at hs; omega
      clear h1 h2 hs
      go_enter Tryd.func50, Tryd.ntmps50
      go_wp2
      go_ret2
      exact ⟨.inr ⟨HE.out, _, rfl⟩, Below.refl _ _⟩
    · have b2 : s.toList.isEmpty = false := by rw [toList_eq]; cases h : s.data.toList with | nil => exact absurd h h2 | cons _ _ => rfl
      by_cases h3 : 1024 < s.size
      · have HE := Lib.hid (word_odd (.inr (.inl h3)) h1)
        have h3' : (1024 : Int) < (s.size : Int) := by omega
        clear h1 h2 hs h3
        go_enter Tryd.func50, Tryd.ntmps50
        go_wp2
        go_ret2
        exact ⟨.inr ⟨HE.out, _, rfl⟩, Below.refl _ _⟩
      · by_cases h4 : s.size % 2 = 0
        · have h3' : ¬ (1024 : Int) < (s.size : Int) := by omega
          have h4' : (s.size : Int).tmod 2 = 0 := by rw [Int.tmod_eq_emod_of_nonneg (by omega)]; omega
          have h4'' : (s.size : Int) % 2 = 0 := by omega
          obtain ⟨i0, hi, hz0, hz1, hz2⟩ := info_parts info5
          have H1 := Lib.hid h1
          have H2 := Lib.hid h2
          have H4 := Lib.hid h4
          clear h1 h2 hs h4
          go_enter Tryd.func50, Tryd.ntmps50
          go_wp2
          go_loopw [4, 5] (fun v i wr => ∃ (j : Nat) (l : List UInt8), 2 * j ≤ s.size ∧ i = .int .i64 ((2 * j : Nat) : Int) ∧ wr.ownsRow w.heap.size 5 1 v l.length (u8s l) ∧ Hid (ReadTo s j l) ∧ Below w.heap.size w wr) (fun _ i _ => s.size - (intOf i).toNat)
          case atStart => exact ⟨0, [], by omega, rfl, World.ownsRow_nil _ _ _ _, Lib.hid ⟨rfl, by simp⟩, Below.refl _ _⟩
          case round =>
            obtain ⟨j, l, hj, rfl, hrow, HR, hB⟩ := hrel
            by_cases hlt : 2 * j < s.size
            · have hlt1 : 2 * j + 1 < s.size := by have := H4.out; omega
              obtain ⟨p, hp⟩ : ∃ p, 2 * j = p := ⟨_, rfl⟩
              obtain ⟨q, hq⟩ : ∃ q, 2 * j + 1 = q := ⟨_, rfl⟩
              have hps : p < s.size := by omega
              have hqs : q < s.size := by omega
              have HNot := Lib.hid (not_word' hp hq hps hqs H1.out)
              have HNx := Lib.hid (fun m n b => HR.out.next' (m := m) (n := n) (b := b) hp hq hps hqs)
              have hpq : (p : Int) + 1 = (q : Int) := by omega
              have wq : IntKind.i64.wrap (q : Int) = (q : Int) := wrapI _ (by omega) (by omega)
              have hji : (p : Int) < (s.size : Int) := by omega
              have hji1 : (q : Int) < (s.size : Int) := by omega
              have C1 := fun w => hex_any s[p] w
              have C2 := fun w => hex_any s[q] w
              have HP := Lib.hid hp
              have HQ := Lib.hid hq
              have hl2 : l.length = j := HR.out.1
              have HL := Lib.hid hl2
              have hll : l.length ≤ 600 := by omega
              rw [hp]
              clear hp hq hj hl2 hlt1
              by_cases hbad : hexI s[p] < 0 ∨ hexI s[q] < 0
              · have HE := Lib.hid (HNot.out hbad)
                generalize hexI s[p] = x at *
                generalize hexI s[q] = y at *
                have HB := Lib.hid hB
                clear hB hrow HNx
                go_upto_region 9 with fail
                refine wp_region_any (by kernel_rfl) ?_
                change wpAny _ _ _ _ _ _ _ (World.drew _)
                refine take_one 29 (i := 0) (v := .string s) rfl rfl (by kernel_rfl) (by kernel_rfl) (by kernel_rfl) (fun _ _ _ h => h) (Or.inl ⟨by kernel_rfl, fun w => by (go_simp)⟩) ?_
                simp only [Act.put, List.setIfInBounds_toArray, List.set_cons_zero, List.set_cons_succ]
                refine take_one 30 (i := 1) (v := .int .i64 p) rfl rfl (by kernel_rfl) (by kernel_rfl) (by kernel_rfl) (fun _ _ _ h => h) (Or.inl ⟨by kernel_rfl, fun w => by (go_simp)⟩) ?_
                simp only [Act.put, List.setIfInBounds_toArray, List.set_cons_zero, List.set_cons_succ]
                refine take_one 31 (i := 2) (v := .int .u8 (s[p].toNat : Int)) rfl rfl (by kernel_rfl) (by kernel_rfl) (by kernel_rfl) (fun _ _ _ h => h) (Or.inl ⟨by kernel_rfl, fun w => by (go_simp)⟩) ?_
                simp only [Act.put, List.setIfInBounds_toArray, List.set_cons_zero, List.set_cons_succ]
                refine take_one 33 (i := 4) (v := .string s) rfl rfl (by kernel_rfl) (by kernel_rfl) (by kernel_rfl) (fun _ _ _ h => h) (Or.inl ⟨by kernel_rfl, fun w => by (go_simp)⟩) ?_
                simp only [Act.put, List.setIfInBounds_toArray, List.set_cons_zero, List.set_cons_succ]
                refine take_one 34 (i := 5) (v := .int .i64 p) rfl rfl (by kernel_rfl) (by kernel_rfl) (by kernel_rfl) (fun _ _ _ h => h) (Or.inl ⟨by kernel_rfl, fun w => by (go_simp)⟩) ?_
                simp only [Act.put, List.setIfInBounds_toArray, List.set_cons_zero, List.set_cons_succ]
                refine take_one 35 (i := 6) (v := .int .i64 q) rfl rfl (by kernel_rfl) (by kernel_rfl) (by kernel_rfl) (fun _ _ _ h => h) (Or.inl ⟨by kernel_rfl, fun w => by (go_simp)⟩) ?_
                simp only [Act.put, List.setIfInBounds_toArray, List.set_cons_zero, List.set_cons_succ]
                refine take_one 36 (i := 7) (v := .int .u8 (s[q].toNat : Int)) rfl rfl (by kernel_rfl) (by kernel_rfl) (by kernel_rfl) (fun _ _ _ h => h) (Or.inl ⟨by kernel_rfl, fun w => by (go_simp)⟩) ?_
                simp only [Act.put, List.setIfInBounds_toArray, List.set_cons_zero, List.set_cons_succ]
                refine wpAny_ready (rs := [3]) (by kernel_rfl) (by simp) ?_
                refine AllReady.cons rfl (fun K hK => ?_) (AllReady.nil)
                go_simp
                go_at_call 32
                refine (C1 _).mono ?_
                rintro e w' ⟨rfl, rfl⟩
                go_wp2_with fail
                refine wpAny_ready (rs := [8]) (by kernel_rfl) (by simp) ?_
                refine AllReady.cons rfl (fun K hK => ?_) (AllReady.nil)
                go_simp
                go_at_call 32
                refine (C2 _).mono ?_
                rintro e w' ⟨rfl, rfl⟩
                go_wp2_with fail
                refine take_one 6 (i := 9) (v := .int .i64 x) rfl rfl (by kernel_rfl) (by kernel_rfl) (by kernel_rfl) (fun _ _ _ h => h) (Or.inl ⟨by kernel_rfl, fun w => by (go_simp)⟩) ?_
                simp only [Act.put, List.setIfInBounds_toArray, List.set_cons_zero, List.set_cons_succ]
                refine take_one 7 (i := 10) (v := .int .i64 y) rfl rfl (by kernel_rfl) (by kernel_rfl) (by kernel_rfl) (fun _ _ _ h => h) (Or.inl ⟨by kernel_rfl, fun w => by (go_simp)⟩) ?_
                simp only [Act.put, List.setIfInBounds_toArray, List.set_cons_zero, List.set_cons_succ]
                refine wpAny_done (by kernel_rfl) ?_ _
                clear C1 C2
                rcases Int.lt_or_le x 0 with hx | hx
                · go_wp2
                  go_ret2
                  first | exact ⟨.inr ⟨HE.out, _, rfl⟩, HB.out⟩ | exact ⟨.inr ⟨HE.out, _, rfl⟩, HB.out.drew⟩
                · have hy : y < 0 := by omega
                  clear hbad
                  go_wp2
                  go_ret2
                  first | exact ⟨.inr ⟨HE.out, _, rfl⟩, HB.out⟩ | exact ⟨.inr ⟨HE.out, _, rfl⟩, HB.out.drew⟩
              · obtain ⟨m, hm, em, gm⟩ := hexI_of (c := s[p]) (by omega)
                obtain ⟨n, hn, en, gn⟩ := hexI_of (c := s[q]) (by omega)
                obtain ⟨b, hb1, hb2, hb3⟩ := hex_byte hm hn
                have HN := Lib.hid (HNx.out m n b em en hb1)
                rw [gm] at C1
                rw [gn] at C2
                clear gm gn hbad em en hb1
                go_upto_region 9 with fail
                refine wp_region_any (by kernel_rfl) ?_
                change wpAny _ _ _ _ _ _ _ (World.drew _)
                refine take_one 29 (i := 0) (v := .string s) rfl rfl (by kernel_rfl) (by kernel_rfl) (by kernel_rfl) (fun _ _ _ h => h) (Or.inl ⟨by kernel_rfl, fun w => by (go_simp)⟩) ?_
                simp only [Act.put, List.setIfInBounds_toArray, List.set_cons_zero, List.set_cons_succ]
                refine take_one 30 (i := 1) (v := .int .i64 p) rfl rfl (by kernel_rfl) (by kernel_rfl) (by kernel_rfl) (fun _ _ _ h => h) (Or.inl ⟨by kernel_rfl, fun w => by (go_simp)⟩) ?_
                simp only [Act.put, List.setIfInBounds_toArray, List.set_cons_zero, List.set_cons_succ]
                refine take_one 31 (i := 2) (v := .int .u8 (s[p].toNat : Int)) rfl rfl (by kernel_rfl) (by kernel_rfl) (by kernel_rfl) (fun _ _ _ h => h) (Or.inl ⟨by kernel_rfl, fun w => by (go_simp)⟩) ?_
                simp only [Act.put, List.setIfInBounds_toArray, List.set_cons_zero, List.set_cons_succ]
                refine take_one 33 (i := 4) (v := .string s) rfl rfl (by kernel_rfl) (by kernel_rfl) (by kernel_rfl) (fun _ _ _ h => h) (Or.inl ⟨by kernel_rfl, fun w => by (go_simp)⟩) ?_
                simp only [Act.put, List.setIfInBounds_toArray, List.set_cons_zero, List.set_cons_succ]
                refine take_one 34 (i := 5) (v := .int .i64 p) rfl rfl (by kernel_rfl) (by kernel_rfl) (by kernel_rfl) (fun _ _ _ h => h) (Or.inl ⟨by kernel_rfl, fun w => by (go_simp)⟩) ?_
                simp only [Act.put, List.setIfInBounds_toArray, List.set_cons_zero, List.set_cons_succ]
                refine take_one 35 (i := 6) (v := .int .i64 q) rfl rfl (by kernel_rfl) (by kernel_rfl) (by kernel_rfl) (fun _ _ _ h => h) (Or.inl ⟨by kernel_rfl, fun w => by (go_simp)⟩) ?_
                simp only [Act.put, List.setIfInBounds_toArray, List.set_cons_zero, List.set_cons_succ]
                refine take_one 36 (i := 7) (v := .int .u8 (s[q].toNat : Int)) rfl rfl (by kernel_rfl) (by kernel_rfl) (by kernel_rfl) (fun _ _ _ h => h) (Or.inl ⟨by kernel_rfl, fun w => by (go_simp)⟩) ?_
                simp only [Act.put, List.setIfInBounds_toArray, List.set_cons_zero, List.set_cons_succ]
                refine wpAny_ready (rs := [3]) (by kernel_rfl) (by simp) ?_
                refine AllReady.cons rfl (fun K hK => ?_) (AllReady.nil)
                go_simp
                go_at_call 32
                refine (C1 _).mono ?_
                rintro e w' ⟨rfl, rfl⟩
                go_wp2_with fail
                refine wpAny_ready (rs := [8]) (by kernel_rfl) (by simp) ?_
                refine AllReady.cons rfl (fun K hK => ?_) (AllReady.nil)
                go_simp
                go_at_call 32
                refine (C2 _).mono ?_
                rintro e w' ⟨rfl, rfl⟩
                go_wp2_with fail
                refine take_one 6 (i := 9) (v := .int .i64 (m : Int)) rfl rfl (by kernel_rfl) (by kernel_rfl) (by kernel_rfl) (fun _ _ _ h => h) (Or.inl ⟨by kernel_rfl, fun w => by (go_simp)⟩) ?_
                simp only [Act.put, List.setIfInBounds_toArray, List.set_cons_zero, List.set_cons_succ]
                refine take_one 7 (i := 10) (v := .int .i64 (n : Int)) rfl rfl (by kernel_rfl) (by kernel_rfl) (by kernel_rfl) (fun _ _ _ h => h) (Or.inl ⟨by kernel_rfl, fun w => by (go_simp)⟩) ?_
                simp only [Act.put, List.setIfInBounds_toArray, List.set_cons_zero, List.set_cons_succ]
                refine wpAny_done (by kernel_rfl) ?_ _
                clear C1 C2
                have hsz := hB.size
                have hm1 : (m : Int) < 16 := by omega
                have hn1 : (n : Int) < 16 := by omega
                have v3 : (m : Int) * 16 + (n : Int) = (b.toNat : Int) := by omega
                clear hb2 hb3
                go_wp2_with (at_builtin; go_loud (refine wpList_append_own _ rfl _ _ 51 rfl w.heap.size 5 i0 (.int .u8 0) 1 1 Tryd.underlying51 hi hz0 hz1 hz2 rfl (by decide) _ _ _ rfl (hrow.alloc _) ⟨wr.heap.size, 0, none⟩ 1 1 [.int .u8 (b.toNat : Int)] rfl rfl (cell_one_made _ _ _) (by simp [Value.oneCell']) (by unfold maxLen; omega) (by omega) (Nat.le_trans hsz (by simp)) ?_; intro v' w3 hown' hgrow _; have HB4 := Lib.hid (hB.trans (((Below.refl _ wr).alloc hsz _).drew.grown hgrow (by simp; omega) (fun j ej => (hrow.lt j ej).1))); have HO := Lib.hid hown'; clear hown' hgrow))
                go_roundw
                case rel => exact ⟨j + 1, l ++ [b], by have := HQ.out; omega, by have := HP.out; go_num, by rw [u8s_app, List.length_append]; exact HO.out, HN, HB4.out⟩
                case measure => have := HP.out; simp [intOf]; omega
            · obtain hjs : 2 * j = s.size := by omega
              have HE := Lib.hid (HR.out.done hjs H2.out (by omega))
              have hji : ¬ (((2 * j : Nat) : Int) < (s.size : Int)) := by omega
              have hcv := conv_own wr w.heap.size _ _ hrow
              have HB := Lib.hid hB
              clear hB hrow
              go_wp2
              go_ret2
              exact ⟨.inl ⟨_, HE.out, rfl⟩, HB.out⟩
        · have HE := Lib.hid (word_odd (.inr (.inr h4)) h1)
          have h3' : ¬ (1024 : Int) < (s.size : Int) := by omega
          have h4' : (s.size : Int).tmod 2 = 1 := by rw [Int.tmod_eq_emod_of_nonneg (by omega)]; omega
          have h4'' : (s.size : Int) % 2 = 1 := by omega
          clear h1 h2 hs h4
          go_enter Tryd.func50, Tryd.ntmps50
          go_wp2
          go_ret2
          exact ⟨.inr ⟨HE.out, _, rfl⟩, Below.refl _ _⟩
end Go.Proofs.YtmloljjllmmkoaaDoor

