/-
  TabN / CmdA.
-/
import Derived.Test.YtfokdmijkniomaaGreatDoorC1
import Derived.Deep.CutRange
import Derived.Deep.RegionHeld3
namespace Go.Proofs.YtfokdmijkniomaaGreatDoor
open Go.RowKit Go

def letters : List UInt8 := [97, 98, 99, 100, 101, 102, 103, 104, 105, 106, 107, 108, 109, 110, 111, 112, 113, 114, 115, 116, 117, 118, 119, 120, 121, 122, 48, 49, 50, 51, 52, 53, 54, 55, 56, 57, 46, 45, 95]
theorem index_no {c : UInt8} (h : nameByte c = false) : Lib.indexByte letters c = -1 := by
  revert h
  have : ∀ n : Fin 256, nameByte (UInt8.ofNat n.val) = false → Lib.indexByte letters (UInt8.ofNat n.val) = -1 := by decide +kernel
  have h2 := this ⟨c.toNat, c.toNat_lt⟩
  simpa using h2
theorem index_yes {c : UInt8} (h : nameByte c = true) : 0 ≤ Lib.indexByte letters c := by
  revert h
  have : ∀ n : Fin 256, nameByte (UInt8.ofNat n.val) = true → 0 ≤ Lib.indexByte letters (UInt8.ofNat n.val) := by decide +kernel
  have h2 := this ⟨c.toNat, c.toNat_lt⟩
  simpa using h2
noncomputable def nameB (s : ByteArray) : Bool := by classical exact decide (NameOk s)
theorem nameB_iff (s : ByteArray) : nameB s = true ↔ NameOk s := by unfold nameB; simp
theorem nameB_yes {s : ByteArray} (h : NameOk s) : nameB s = true := (nameB_iff s).2 h
theorem nameB_no {s : ByteArray} (h : ¬ NameOk s) : nameB s = false := by
  cases e : nameB s with
  | false => rfl
  | true => exact absurd ((nameB_iff s).1 e) h
theorem ixb (c : UInt8) (w : World) : Calls Tryz.prog 136 #[.string ⟨#[97, 98, 99, 100, 101, 102, 103, 104, 105, 106, 107, 108, 109, 110, 111, 112, 113, 114, 115, 116, 117, 118, 119, 120, 121, 122, 48, 49, 50, 51, 52, 53, 54, 55, 56, 57, 46, 45, 95]⟩, .int .u8 (c.toNat : Int)] w fun e w' => e = .returned (.int .i64 (Lib.indexByte letters c)) ∧ w' = w := by
  have h := Any.strings_IndexByte Tryz.lays137 ⟨#[97, 98, 99, 100, 101, 102, 103, 104, 105, 106, 107, 108, 109, 110, 111, 112, 113, 114, 115, 116, 117, 118, 119, 120, 121, 122, 48, 49, 50, 51, 52, 53, 54, 55, 56, 57, 46, 45, 95]⟩ (c.toNat : Int) w
  have e : (c.toNat : Int).toNat.toUInt8 = c := by simp
  rw [e] at h
  exact h
theorem toList_eq (s : ByteArray) : s.toList = s.data.toList := ByteArray.toList_eq s
/-- what is wrong with a text's ends, if anything -/
inductive Head (s : ByteArray) : Prop where
  | none (h : s.toList = [])
  | long (h : (16 : Int) < (s.size : Int)) (h1 : ¬ s.toList = [])
  | dot (h : s.toList = [46])
  | dots (h : s.toList = [46, 46])
  | fine (h1 : ¬ s.toList = []) (h2 : (s.size : Int) ≤ 16) (h3 : ¬ s.toList = [46]) (h4 : ¬ s.toList = [46, 46])
theorem head_of (s : ByteArray) : Head s := by
  by_cases h1 : s.toList = []
  · exact .none h1
  · by_cases h2 : (16 : Int) < (s.size : Int)
    · exact .long h2 h1
    · by_cases h3 : s.toList = [46]
      · exact .dot h3
      · by_cases h4 : s.toList = [46, 46]
        · exact .dots h4
        · exact .fine h1 (by omega) h3 h4
theorem len_of (s : ByteArray) : s.data.toList.length = s.size := Array.length_toList (xs := s.data)
theorem no_none {s : ByteArray} (h : s.toList = []) : nameB s = false := nameB_no fun k => by
  have := k.1; rw [← len_of, ← toList_eq, h] at this; simp at this
theorem no_long {s : ByteArray} (h : (16 : Int) < (s.size : Int)) : nameB s = false := nameB_no fun k => by have := k.2.1; omega
theorem no_dot {s : ByteArray} (h : s.toList = [46]) : nameB s = false := nameB_no fun k => k.2.2.2.1 (by rw [← toList_eq, h])
theorem no_dots {s : ByteArray} (h : s.toList = [46, 46]) : nameB s = false := nameB_no fun k => k.2.2.2.2 (by rw [← toList_eq, h])
theorem yes_fine {s : ByteArray} (h1 : ¬ s.toList = []) (h2 : (s.size : Int) ≤ 16) (h3 : ¬ s.toList = [46]) (h4 : ¬ s.toList = [46, 46]) (hall : ∀ c ∈ s.data.toList, nameByte c = true) : nameB s = true := by
  rw [toList_eq] at h1 h3 h4
  refine nameB_yes ⟨?_, by omega, hall, h3, h4⟩
  rcases Nat.eq_zero_or_pos s.size with h | h
  · rw [← len_of] at h; exact absurd (List.eq_nil_of_length_eq_zero h) h1
  · exact h
theorem size_of {s : ByteArray} {l : List UInt8} (h : s.toList = l) : s.size = l.length := by rw [← len_of, ← toList_eq, h]
set_option maxRecDepth 100000 in
set_option maxHeartbeats 1000000 in
theorem name_any (s : ByteArray) (hs : s.size ≤ 281474976710656) (w : World) :
    Calls Tryz.prog 97 #[.string s] w fun e w' => e = .returned (.bool (nameB s)) ∧ w = w' := by
  obtain ⟨z, hz⟩ : ∃ z, nameB s = z := ⟨_, rfl⟩
  rw [hz]
  have HZ := Lib.hid hz
  clear hz
  have C := fun (c : UInt8) w => ixb c w
  cases head_of s with
  | none h =>
    have HS := Lib.hid (show z = false by rw [← HZ.out]; exact no_none h)
    have hsz : (s.size : Int) = 0 := by rw [size_of h]; rfl
    go_enter Tryz.func97, Tryz.ntmps97
    go_wp2
    go_ret
    exact ⟨by rw [HS.out]; rfl, rfl⟩
  | long h h1 =>
    have HS := Lib.hid (show z = false by rw [← HZ.out]; exact no_long h)
    go_enter Tryz.func97, Tryz.ntmps97
    go_wp2
    go_ret
    exact ⟨by rw [HS.out]; rfl, rfl⟩
  | dot h =>
    have HS := Lib.hid (show z = false by rw [← HZ.out]; exact no_dot h)
    have hsz : (s.size : Int) = 1 := by rw [size_of h]; rfl
    go_enter Tryz.func97, Tryz.ntmps97
    go_wp2
    go_ret
    exact ⟨by rw [HS.out]; rfl, rfl⟩
  | dots h =>
    have HS := Lib.hid (show z = false by rw [← HZ.out]; exact no_dots h)
    have hsz : (s.size : Int) = 2 := by rw [size_of h]; rfl
    go_enter Tryz.func97, Tryz.ntmps97
    go_wp2
    go_ret
    exact ⟨by rw [HS.out]; rfl, rfl⟩
  | fine h1 hs16 h3 h4 =>
    have HE := Lib.hid (yes_fine h1 hs16 h3 h4)
    have b1 : s.toList.isEmpty = false := by rw [← Bool.not_eq_true, List.isEmpty_iff]; exact h1
    have b3 : (s.toList == [46]) = false := beq_eq_false_iff_ne.2 h3
    have b4 : (s.toList == [46, 46]) = false := beq_eq_false_iff_ne.2 h4
    clear h1 h3 h4
    go_enter Tryz.func97, Tryz.ntmps97
    go_wp2
    clear b1 b3 b4
    go_loop [21] (fun i => ∃ j : Nat, j ≤ s.size ∧ i = .int .i64 j ∧ ∀ x ∈ s.data.toList.take j, nameByte x = true) (fun i => s.size - (intOf i).toNat)
    case atStart => exact ⟨0, Nat.zero_le _, rfl, by simp⟩
    case round =>
      obtain ⟨j, hj, rfl, hno⟩ := hrel
      have HN := Lib.hid hno
      clear hno
      by_cases hlt : j < s.size
      · have hl : j < s.data.toList.length := by simpa using hlt
        have hji : (j : Int) < (s.size : Int) := by omega
        have he : s.data.toList[j] = s[j] := rfl
        by_cases hk : nameByte s[j] = true
        · have hi := index_yes hk
          have HS := Lib.hid (show ∀ x ∈ s.data.toList.take (j + 1), nameByte x = true by
            intro x hx
            rw [List.take_succ_eq_append_getElem hl] at hx
            rcases List.mem_append.1 hx with hx | hx
            · exact HN.out x hx
            · rw [List.mem_singleton.1 hx, he]; exact hk)
          have C1 := C s[j]
          generalize Lib.indexByte letters s[j] = q at *
          clear hk he
          go_wp2_with (refine (C1 _).mono ?_; rintro e w' ⟨rfl, rfl⟩)
          go_round
          case rel => exact ⟨j + 1, hlt, by go_num, HS.out⟩
          case measure => simp [intOf]; omega
        · have hi := index_no (c := s[j]) (by simpa using hk)
          have HS := Lib.hid (show z = false by
            rw [← HZ.out]
            exact nameB_no fun k => hk (by rw [← he]; exact k.2.2.1 _ (List.getElem_mem hl)))
          have C1 := C s[j]
          rw [hi] at C1
          clear hk he hi
          go_wp2_with (refine (C1 _).mono ?_; rintro e w' ⟨rfl, rfl⟩)
          go_ret
          exact ⟨by rw [HS.out]; rfl, rfl⟩
      · obtain rfl : j = s.size := by omega
        have HS := Lib.hid (show z = true by
          rw [← HZ.out]
          refine HE.out fun c hc => HN.out c ?_
          rw [List.take_of_length_le (by simp)]; exact hc)
        go_wp2
        go_ret
        exact ⟨by rw [HS.out]; rfl, rfl⟩
/-- which of the reference's tests a byte meets -/
inductive ByteC (n : Int) : Prop where
  | small (h1 : 97 ≤ n) (h2 : n ≤ 122)
  | digit (h1 : n < 97) (h2 : 48 ≤ n) (h3 : n ≤ 57)
  | one (h1 : n < 97) (h2 : ¬ (48 ≤ n ∧ n ≤ 57)) (h3 : n = 46 ∨ n = 45 ∨ n = 95)
  | bad (h1 : ¬ (97 ≤ n ∧ n ≤ 122)) (h2 : ¬ (48 ≤ n ∧ n ≤ 57)) (h3 : n ≠ 46) (h4 : n ≠ 45) (h5 : n ≠ 95)
theorem byteC (n : Int) : ByteC n := by
  by_cases h1 : 97 ≤ n ∧ n ≤ 122
  · exact .small h1.1 h1.2
  · by_cases h2 : 48 ≤ n ∧ n ≤ 57
    · exact .digit (by omega) h2.1 h2.2
    · by_cases h3 : n = 46 ∨ n = 45 ∨ n = 95
      · exact .one (by omega) h2 h3
      · exact .bad h1 h2 (by omega) (by omega) (by omega)
theorem nameByte_of {c : UInt8} (h : (97 ≤ (c.toNat : Int) ∧ (c.toNat : Int) ≤ 122) ∨ (48 ≤ (c.toNat : Int) ∧ (c.toNat : Int) ≤ 57) ∨ (c.toNat : Int) = 46 ∨ (c.toNat : Int) = 45 ∨ (c.toNat : Int) = 95) : nameByte c = true := by
  simp [nameByte]; omega
theorem not_nameByte {c : UInt8} (h1 : ¬ (97 ≤ (c.toNat : Int) ∧ (c.toNat : Int) ≤ 122)) (h2 : ¬ (48 ≤ (c.toNat : Int) ∧ (c.toNat : Int) ≤ 57)) (h3 : (c.toNat : Int) ≠ 46) (h4 : (c.toNat : Int) ≠ 45) (h5 : (c.toNat : Int) ≠ 95) : nameByte c = false := by
  cases e : nameByte c with
  | false => rfl
  | true => simp [nameByte] at e; omega
set_option maxRecDepth 100000 in
set_option maxHeartbeats 1000000 in
theorem rname_any (s : ByteArray) (hs : s.size ≤ 281474976710656) (w : World) :
    Calls Tryz.prog 60 #[.string s] w fun e w' => e = .returned (.bool (nameB s)) ∧ w = w' := by
  obtain ⟨z, hz⟩ : ∃ z, nameB s = z := ⟨_, rfl⟩
  rw [hz]
  have HZ := Lib.hid hz
  clear hz
  go_enter Tryz.func60, Tryz.ntmps60
  go_wp2
  go_loop [3] (fun i => ∃ j : Nat, j ≤ s.size ∧ i = .int .i64 j ∧ ∀ x ∈ s.data.toList.take j, nameByte x = true) (fun i => s.size - (intOf i).toNat)
  case atStart => exact ⟨0, Nat.zero_le _, rfl, by simp⟩
  case round =>
    obtain ⟨j, hj, rfl, hno⟩ := hrel
    have HN := Lib.hid hno
    clear hno
    by_cases hlt : j < s.size
    · have hl : j < s.data.toList.length := by simpa using hlt
      have hji : (j : Int) < (s.size : Int) := by omega
      have HE := Lib.hid (show s.data.toList[j] = s[j] from rfl)
      have HS := Lib.hid (show nameByte s[j] = true → ∀ x ∈ s.data.toList.take (j + 1), nameByte x = true by
        intro hk x hx
        rw [List.take_succ_eq_append_getElem hl] at hx
        rcases List.mem_append.1 hx with hx | hx
        · exact HN.out x hx
        · rw [List.mem_singleton.1 hx, HE.out]; exact hk)
      have HB := Lib.hid (show nameByte s[j] = false → z = false by
        intro hk
        rw [← HZ.out]
        exact nameB_no fun k => by
          have := k.2.2.1 _ (List.getElem_mem hl)
          rw [HE.out, hk] at this
          cases this)
      cases byteC (s[j].toNat : Int) with
      | small h1 h2 =>
        have HG := Lib.hid (nameByte_of (c := s[j]) (.inl ⟨h1, h2⟩))
        go_wp2
        go_round
        case rel => exact ⟨j + 1, hlt, by go_num, HS.out HG.out⟩
        case measure => simp [intOf]; omega
      | digit h1 h2 h3 =>
        have HG := Lib.hid (nameByte_of (c := s[j]) (.inr (.inl ⟨h2, h3⟩)))
        have h4 : ¬ (97 ≤ (s[j].toNat : Int)) := by omega
        go_wp2
        go_round
        case rel => exact ⟨j + 1, hlt, by go_num, HS.out HG.out⟩
        case measure => simp [intOf]; omega
      | one h1 h2 h3 =>
        have HG := Lib.hid (nameByte_of (c := s[j]) (.inr (.inr h3)))
        have h4 : ¬ (97 ≤ (s[j].toNat : Int)) := by omega
        clear h2
        rcases h3 with h3 | h3 | h3
        · go_wp2
          go_round
          case rel => exact ⟨j + 1, hlt, by go_num, HS.out HG.out⟩
          case measure => simp [intOf]; omega
        · go_wp2
          go_round
          case rel => exact ⟨j + 1, hlt, by go_num, HS.out HG.out⟩
          case measure => simp [intOf]; omega
        · go_wp2
          go_round
          case rel => exact ⟨j + 1, hlt, by go_num, HS.out HG.out⟩
          case measure => simp [intOf]; omega
      | bad h1 h2 h3 h4 h5 =>
        have HF := Lib.hid (HB.out (not_nameByte h1 h2 h3 h4 h5))
        have e3 : ((s[j].toNat : Int) == 46) = false := beq_eq_false_iff_ne.2 h3
        have e4 : ((s[j].toNat : Int) == 45) = false := beq_eq_false_iff_ne.2 h4
        have e5 : ((s[j].toNat : Int) == 95) = false := beq_eq_false_iff_ne.2 h5
        have hh : (97 ≤ (s[j].toNat : Int) ∧ 122 < (s[j].toNat : Int)) ∨ (¬ (97 ≤ (s[j].toNat : Int)) ∧ (s[j].toNat : Int) < 97) := by omega
        have hd : (48 ≤ (s[j].toNat : Int) ∧ 57 < (s[j].toNat : Int)) ∨ (¬ (48 ≤ (s[j].toNat : Int)) ∧ (s[j].toNat : Int) < 48) := by omega
        clear h1 h2 h3 h4 h5
        rcases hh with ⟨a1, a2⟩ | ⟨a1, a2⟩
        · rcases hd with ⟨b1, b2⟩ | ⟨b1, b2⟩
          · have a3 : decide ((s[j].toNat : Int) ≤ 122) = false := decide_eq_false (by omega)
            have b3 : decide ((s[j].toNat : Int) ≤ 57) = false := decide_eq_false (by omega)
            go_wp2
            go_ret
            exact ⟨by rw [HF.out]; rfl, rfl⟩
          · omega
        · rcases hd with ⟨b1, b2⟩ | ⟨b1, b2⟩
          · have b3 : decide ((s[j].toNat : Int) ≤ 57) = false := decide_eq_false (by omega)
            go_wp2
            go_ret
            exact ⟨by rw [HF.out]; rfl, rfl⟩
          · go_wp2
            go_ret
            exact ⟨by rw [HF.out]; rfl, rfl⟩
    · obtain rfl : j = s.size := by omega
      have HA := Lib.hid (show ∀ x ∈ s.data.toList, nameByte x = true from fun x hx => HN.out x (by rw [List.take_of_length_le (by simp)]; exact hx))
      cases head_of s with
      | none h =>
        have HF := Lib.hid (show z = false by rw [← HZ.out]; exact no_none h)
        have hsz : (s.size : Int) = 0 := by rw [size_of h]; rfl
        clear HN HA
        go_wp2
        go_ret
        exact ⟨by rw [HF.out]; rfl, rfl⟩
      | long h h1 =>
        have HF := Lib.hid (show z = false by rw [← HZ.out]; exact no_long h)
        clear HN HA
        go_wp2
        go_ret
        exact ⟨by rw [HF.out]; rfl, rfl⟩
      | dot h =>
        have HF := Lib.hid (show z = false by rw [← HZ.out]; exact no_dot h)
        have hsz : (s.size : Int) = 1 := by rw [size_of h]; rfl
        clear HN HA
        go_wp2
        go_ret
        exact ⟨by rw [HF.out]; rfl, rfl⟩
      | dots h =>
        have HF := Lib.hid (show z = false by rw [← HZ.out]; exact no_dots h)
        have hsz : (s.size : Int) = 2 := by rw [size_of h]; rfl
        clear HN HA
        go_wp2
        go_ret
        exact ⟨by rw [HF.out]; rfl, rfl⟩
      | fine h1 hs16 h3 h4 =>
        have HF := Lib.hid (show z = true by rw [← HZ.out]; exact yes_fine h1 hs16 h3 h4 HA.out)
        have b3 : (s.toList == [46]) = false := beq_eq_false_iff_ne.2 h3
        have b4 : (s.toList == [46, 46]) = false := beq_eq_false_iff_ne.2 h4
        have hs1 : (1 : Int) ≤ (s.size : Int) := by
          rcases Nat.eq_zero_or_pos s.size with h | h
          · rw [← len_of, ← toList_eq] at h; exact absurd (List.eq_nil_of_length_eq_zero h) h1
          · omega
        clear HN HA h1
        go_wp2
        go_ret
        exact ⟨by rw [HF.out]; rfl, rfl⟩
end Go.Proofs.YtfokdmijkniomaaGreatDoor

namespace Go.Proofs.YtfokdmijkniomaaGreatDoor
open Go.RowKit Go

theorem joinB_part {c : UInt8} : ∀ {ps : List ByteArray} {p : ByteArray}, p ∈ ps → p.size ≤ (joinB c ps).length
  | [], _, h => by simp at h
  | [q], p, h => by
    have hs : q.data.toList.length = q.size := Array.length_toList (xs := q.data)
    rw [List.mem_singleton.1 h]
    show q.size ≤ q.data.toList.length
    omega
  | q :: q1 :: r, p, h => by
    have hs : q.data.toList.length = q.size := Array.length_toList (xs := q.data)
    show p.size ≤ (q.data.toList ++ c :: joinB c (q1 :: r)).length
    simp only [List.length_append, List.length_cons]
    rcases List.mem_cons.1 h with rfl | h
    · omega
    · have := joinB_part (c := c) h
      omega
theorem CutN.part {c : UInt8} {n : Nat} {s p : ByteArray} {ps : List ByteArray} (h : CutN c n s ps) (hp : p ∈ ps) : p.size ≤ s.size := by
  have := joinB_part (c := c) hp
  rw [h.2.2.1] at this
  have hs : s.data.toList.length = s.size := Array.length_toList (xs := s.data)
  omega
/-- what Path answers -/
def PathE (s : ByteArray) (B : Nat) (e : Ending) (w' : World) : Prop :=
  (∃ l v, IsPath s l ∧ e = .returned (.tuple #[v, .int .i64 0]) ∧ w'.ownsRow B 9 1 v l.length (strVs l)) ∨ ((∀ l, ¬ IsPath s l) ∧ e = .returned (.tuple #[.slice none 0 0, .int .i64 130]))
theorem set_same {C : Array Value} {i : Nat} {x : Value} (h : C[i]? = some x) : C.setIfInBounds i x = C := by
  apply Array.ext_getElem?
  intro j
  rw [Array.getElem?_setIfInBounds]
  split
  · subst_vars
    split
    · exact h.symm
    · rw [Array.getElem?_eq_none (by omega)]
  · rfl
theorem cellsOf_at {ps : List ByteArray} {N k : Nat} (hk : k < ps.length) : (Lib.cellsOf ps N)[k]? = some (.string ps[k]) := by
  unfold Lib.cellsOf
  rw [List.getElem?_toArray, List.getElem?_append_left (by simpa using hk)]
  simp [hk]
theorem owns_cells {w : World} {B g N : Nat} {ps : List ByteArray} (hB : B ≤ g) (h : w.heap[g]? = some (.cells (Lib.cellsOf ps N) 9 (0, 0))) (hN : ps.length ≤ N) (hm : N ≤ maxLen) :
    w.ownsRow B 9 1 (.slice (some ⟨g, 0, none⟩) ps.length N) ps.length (strVs ps) := by
  have hsz := Lib.cellsOf_size hN
  refine ⟨by simp [strVs], .inr ⟨g, N, Lib.cellsOf ps N, rfl, hB, h, hN, hm, by omega, ?_⟩⟩
  simp [Lib.cellsOf, strVs]
set_option maxRecDepth 100000 in
set_option maxHeartbeats 4000000 in
theorem path_any (s : ByteArray) (hs : s.size ≤ 281474976710656) (w : World) :
    Calls Tryz.prog 71 #[.string s] w fun e w' => PathE s w.heap.size e w' ∧ Below w.heap.size w w' := by
  have CC := fun w => cutPrefix_any s 47 w
  by_cases h0 : s.toList = [47]
  · have b0 : (s.toList == [47]) = true := beq_iff_eq.2 h0
    have HE := Lib.hid (show IsPath s [] from ⟨by simp, by simp, .inl ⟨rfl, by rw [← toList_eq, h0]⟩⟩)
    clear h0 CC
    go_enter Tryz.func71, Tryz.ntmps71
    go_wp2
    go_ret2
    exact ⟨.inl ⟨[], _, HE.out, rfl, World.ownsRow_nil _ _ _ _⟩, Below.refl _ _⟩
  · have b0 : (s.toList == [47]) = false := beq_eq_false_iff_ne.2 h0
    rw [toList_eq] at h0
    by_cases h1 : ∃ r : ByteArray, s.data.toList = 47 :: r.data.toList
    · obtain ⟨r, hr⟩ := h1
      obtain ⟨p1, p2⟩ := cut_yes hr
      rw [p1, p2, bs_self] at CC
      have hrs : r.size ≤ s.size := by
        have e1 : s.data.toList.length = s.size := Array.length_toList (xs := s.data)
        have e2 : r.data.toList.length = r.size := Array.length_toList (xs := r.data)
        have := congrArg List.length hr
        rw [List.length_cons] at this
        omega
      have CS := fun w => splitN_any r 47 9 (by omega) (by omega) (by omega) w
      have HR := Lib.hid hr
      have H0 := Lib.hid h0
      clear h0 hr p1 p2
      go_enter Tryz.func71, Tryz.ntmps71
      go_upto_region 4 with (refine (CC _).mono ?_; rintro e w' ⟨rfl, rfl⟩)
      go_wp2_with fail
      refine (CS _).mono ?_
      rintro e w1 ⟨ps, hc, N, hpN, hNn, rfl, hw1⟩
      have HC := Lib.hid hc
      have hpl : ps.length ≤ 9 := hc.2.1
      have hg : w1.heap[w.heap.size]? = some (.cells (Lib.cellsOf ps N) 9 (0, 0)) := by rw [hw1]; exact heap_alloc_new _ _
      have HB := Lib.hid (show Below w.heap.size w w1 by rw [hw1]; exact (Below.refl _ w).alloc (Nat.le_refl _) _)
      have hgs : w.heap.size < w1.heap.size := lt_of_heap hg
      clear hc hw1 CC CS
      by_cases hl : ps.length = 9
      · have hl8 : (8 : Int) < (ps.length : Int) := by omega
        have HE := Lib.hid (show ∀ l, ¬ IsPath s l by
          intro l h
          by_cases hn : l = []
          · subst hn
            rcases h.2.2 with ⟨_, e⟩ | ⟨e, _⟩
            · exact H0.out e
            · exact e rfl
          · have := HC.out.long (h.parts hn HR.out)
            have := h.2.1
            omega)
        go_wp2
        go_ret2
        exact ⟨.inr ⟨HE.out, rfl⟩, HB.out⟩
      · have hl8 : ¬ (8 : Int) < (ps.length : Int) := by omega
        have HP := Lib.hid (HC.out.short (by omega))
        go_wp2
        go_loopw [27] (fun i wr => ∃ k : Nat, k ≤ ps.length ∧ i = .int .i64 k ∧ Hid (∀ j (h : j < ps.length), j < k → NameOk ps[j]) ∧ wr.heap[w.heap.size]? = some (.cells (Lib.cellsOf ps N) 9 (0, 0)) ∧ Hid (Below w.heap.size w wr)) (fun i _ => ps.length - (intOf i).toNat)
        case atStart => exact ⟨0, Nat.zero_le _, rfl, Lib.hid (fun _ _ h => absurd h (by omega)), hg, HB⟩
        case round =>
          clear hg
          obtain ⟨k, hk, rfl, HN, hg, HBr⟩ := hrel
          have hgr := lt_of_heap hg
          by_cases hlt : k < ps.length
          · have hki : (k : Int) < (ps.length : Int) := by omega
            have hcell : wr.cell? ⟨w.heap.size, k, none⟩ = some (.string ps[k]) := by
              have hx := cellsOf_at (N := N) hlt
              simp [World.cell?, hg, hx]
            have hps : ps[k].size ≤ s.size := Nat.le_trans (HC.out.part (List.getElem_mem hlt)) hrs
            have CN := fun w => name_any ps[k] (by omega) w
            have CL := fun w => clone_any ps[k] (by omega) w
            by_cases hnm : NameOk ps[k]
            · have HS := Lib.hid (show ∀ j (h : j < ps.length), j < k + 1 → NameOk ps[j] by
                intro j h hj
                rcases Nat.lt_or_ge j k with h1 | h1
                · exact HN.out j h h1
                · obtain rfl : j = k := by omega
                  exact hnm)
              have HX := Lib.hid (cellsOf_at (N := N) hlt)
              rw [nameB_yes hnm] at CN
              generalize ps[k] = x at *
              clear hnm
              go_wp2_with fail
              refine (CN _).mono ?_
              rintro e w' ⟨rfl, rfl⟩
              go_wp2_with fail
              refine (CL _).mono ?_
              rintro e w2 ⟨rfl, hB2⟩
              have hg2 := keeps_of hB2 hg
              have HB2 := Lib.hid (HBr.out.trans (hB2.mono HBr.out.size))
              have hgr2 := lt_of_heap hg2
              have hcell2 := (hB2.cell (p := ⟨w.heap.size, k, none⟩) hgr).trans hcell
              have hfr2 : w2.frozen? ⟨w.heap.size, k, none⟩ = false := by simp [World.frozen?, hg2]
              clear hB2 hcell hg hgr
              go_wp2_with fail
              go_roundw
              case rel =>
                refine ⟨k + 1, hlt, by go_num, HS, ?_, Lib.hid (HB2.out.setCell (Nat.le_refl _) _)⟩
                rw [heap_set hg2, set_same HX.out]
              case measure => simp [intOf]; omega
            · have HE := Lib.hid (show ∀ l, ¬ IsPath s l by
                intro l h
                by_cases hn : l = []
                · subst hn
                  rcases h.2.2 with ⟨_, e⟩ | ⟨e, _⟩
                  · exact H0.out e
                  · exact e rfl
                · have e := (h.parts hn HR.out).uniq HP.out
                  subst e
                  exact hnm (h.1 _ (List.getElem_mem hlt)))
              rw [nameB_no hnm] at CN
              generalize ps[k] = x at *
              clear hnm
              go_wp2_with (refine (CN _).mono ?_; rintro e w' ⟨rfl, rfl⟩)
              go_ret2
              exact ⟨.inr ⟨HE.out, rfl⟩, HBr.out⟩
          · obtain rfl : k = ps.length := by omega
            have HE := Lib.hid (show IsPath s ps from .some HR.out HP.out (fun n hn => by
              obtain ⟨j, hj, rfl⟩ := List.getElem_of_mem hn
              exact HN.out j hj hj) (by omega))
            have HO := Lib.hid (owns_cells (Nat.le_refl _) hg hpN (by unfold maxLen; omega))
            go_wp2
            go_ret2
            exact ⟨.inl ⟨ps, _, HE.out, rfl, HO.out⟩, HBr.out⟩
    · have h1' : ∀ r : ByteArray, s.data.toList ≠ 47 :: r.data.toList := fun r e => h1 ⟨r, e⟩
      obtain ⟨p1, p2⟩ := cut_no h1'
      rw [p1, p2, bs_self] at CC
      have CS := fun w => splitN_any s 47 9 (by omega) (by omega) hs w
      have HE := Lib.hid (show ∀ l, ¬ IsPath s l by
        intro l h
        rcases h.2.2 with ⟨_, e⟩ | ⟨_, e⟩
        · exact h0 e
        · exact h1 ⟨bs (joinB 47 l), by rw [bs_list]; exact e⟩)
      clear h0 h1 h1' p1 p2
      go_enter Tryz.func71, Tryz.ntmps71
      go_upto_region 4 with (refine (CC _).mono ?_; rintro e w' ⟨rfl, rfl⟩)
      go_wp2_with fail
      refine (CS _).mono ?_
      rintro e w1 ⟨ps, hc, N, hpN, hNn, rfl, hw1⟩
      have HB := Lib.hid (show Below w.heap.size w w1 by rw [hw1]; exact (Below.refl _ w).alloc (Nat.le_refl _) _)
      clear hc hw1 CC CS
      go_wp2
      go_ret2
      exact ⟨.inr ⟨HE.out, rfl⟩, HB.out⟩
end Go.Proofs.YtfokdmijkniomaaGreatDoor

