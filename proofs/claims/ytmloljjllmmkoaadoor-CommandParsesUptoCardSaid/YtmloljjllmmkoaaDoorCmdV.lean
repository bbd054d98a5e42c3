/-
  The reference: the words of a text; what a digit is worth.
-/
import Derived.Test.YtmloljjllmmkoaaDoorCmdR
namespace Go.Proofs.YtmloljjllmmkoaaDoor
open Go.RowKit Go

/-- how the loop of 'words' stands: the words so far, where the next one begins, where it reads -/
structure LP (s : ByteArray) (l : List ByteArray) (f i : Nat) : Prop where
  len : l.length ≤ i
  ord : f ≤ i ∧ i ≤ s.size
  no : ∀ p ∈ l ++ [s.extract f i], NoB 32 p
  text : joinB 32 (l ++ [s.extract f i]) = s.data.toList.take i
theorem LP.start (s : ByteArray) : LP s [] 0 0 := by
  refine ⟨Nat.le_refl _, ⟨Nat.le_refl _, Nat.zero_le _⟩, ?_, ?_⟩
  · intro p hp
    rw [List.nil_append] at hp
    rw [List.mem_singleton.1 hp]; unfold NoB; rw [ext_none]; simp
  · show (s.extract 0 0).data.toList = _
    rw [ext_none]; simp
theorem LP.go {s : ByteArray} {l : List ByteArray} {f i : Nat} (h : LP s l f i) (hi : i < s.size) (hb : s[i] ≠ 32) : LP s l f (i + 1) := by
  have hs : s.data.toList.length = s.size := Array.length_toList (xs := s.data)
  have he := ext_step h.ord.1 hi
  refine ⟨by have := h.len; omega, ⟨by have := h.ord.1; omega, hi⟩, fun p hp => ?_, ?_⟩
  · rcases List.mem_append.1 hp with hp | hp
    · exact h.no p (by simp [hp])
    · rw [List.mem_singleton.1 hp]
      intro hm
      rw [he] at hm
      rcases List.mem_append.1 hm with hm | hm
      · exact h.no _ (by simp) hm
      · exact hb (List.mem_singleton.1 hm).symm
  · rw [join_last he, h.text, List.take_succ_eq_append_getElem (by omega)]
    rfl
theorem LP.cut {s : ByteArray} {l : List ByteArray} {f i : Nat} (h : LP s l f i) (hi : i < s.size) (hb : s[i] = 32) : LP s (l ++ [s.extract f i]) (i + 1) (i + 1) := by
  have hs : s.data.toList.length = s.size := Array.length_toList (xs := s.data)
  refine ⟨by have := h.len; simp; omega, ⟨Nat.le_refl _, hi⟩, fun p hp => ?_, ?_⟩
  · rcases List.mem_append.1 hp with hp | hp
    · exact h.no p hp
    · rw [List.mem_singleton.1 hp]; unfold NoB; rw [ext_none]; simp
  · rw [joinB_snoc (by simp), ext_none, h.text, List.take_succ_eq_append_getElem (by omega)]
    congr 2
    exact hb.symm
theorem LP.last {s : ByteArray} {l : List ByteArray} {f : Nat} (h : LP s l f s.size) : Parts 32 s (l ++ [s.extract f s.size]) := by
  have hs : s.data.toList.length = s.size := Array.length_toList (xs := s.data)
  exact ⟨by simp, h.no, by rw [h.text, List.take_of_length_le (by omega)]⟩
set_option maxRecDepth 100000 in
set_option maxHeartbeats 8000000 in
theorem rwords_any (s : ByteArray) (hs : s.size ≤ 1048576) (w : World) :
    Calls Tryd.prog 28 #[.string s] w fun e w' => (∃ l, Parts 32 s l ∧ ∃ v, e = .returned v ∧ TextsAt w' v l) ∧ Below w.heap.size w w' := by
  obtain ⟨w1, hw1⟩ : ∃ w1, w.alloc (.cells #[] 9) = w1 := ⟨_, rfl⟩
  have hB1 : Below w.heap.size w w1 := by rw [← hw1]; exact (Below.refl _ w).alloc (Nat.le_refl _) _
  have hr1 : w1.ownsRow w.heap.size 9 1 (.slice (some ⟨w.heap.size, 0, none⟩) 0 0) ([] : List ByteArray).length (strVs []) := by rw [← hw1]; exact owns_none w (Nat.le_refl _) _
  have HB1 := Lib.hid hB1
  have HR1 := Lib.hid hr1
  have HS := Lib.hid (LP.start s)
  obtain ⟨i0, hi, hz0, hz1, hz2⟩ := info_parts info9
  clear hB1 hr1
  go_enter Tryd.func28, Tryd.ntmps28
  go_wp2
  clear hw1
  go_loopw [3, 4, 5] (fun v f i wr => ∃ (l : List ByteArray) (a b : Nat), f = .int .i64 a ∧ i = .int .i64 b ∧ b ≤ s.size + 1 ∧ a ≤ s.size + 1 ∧ l.length ≤ b ∧ Hid (wr.ownsRow w.heap.size 9 1 v l.length (strVs l)) ∧ Hid (Below w.heap.size w wr) ∧ Hid ((b ≤ s.size → LP s l a b) ∧ (b = s.size + 1 → Parts 32 s l))) (fun _ _ i _ => s.size + 1 - (intOf i).toNat)
  case atStart => exact ⟨[], 0, 0, rfl, rfl, by omega, by omega, Nat.le_refl _, HR1, HB1, Lib.hid ⟨fun _ => HS.out, fun h => absurd h (by omega)⟩⟩
  case round =>
    obtain ⟨l, a, b, rfl, rfl, hb, ha, hl8, HR, HB, HP⟩ := hrel
    obtain ⟨n, hn⟩ : ∃ n, l.length = n := ⟨_, rfl⟩
    obtain ⟨ad, cap, rfl⟩ : ∃ ad cap, u3 = .slice ad n cap := by
      rcases HR.out.2 with ⟨e, e2⟩ | ⟨g, cap, cur, e, _⟩
      · exact ⟨none, 0, by rw [e, ← hn, e2]⟩
      · exact ⟨_, cap, by rw [e, hn]⟩
    by_cases hle : b ≤ s.size
    · have hlei : (b : Int) ≤ (s.size : Int) := by omega
      have HRP := Lib.hid (HP.out.1 hle)
      obtain ⟨ho1, _⟩ := HRP.out.ord
      obtain ⟨X, hX⟩ : ∃ X, s.extract a b = X := ⟨_, rfl⟩
      have hszr := HB.out.size
      have hab : (a : Int) ≤ (b : Int) := by omega
      have ha0 : (0 : Int) ≤ (a : Int) := by omega
      have hex : s.extract ((a : Int).toNat) ((b : Int).toNat) = X := hX
      by_cases hlt : b < s.size
      · have hlti : (b : Int) < (s.size : Int) := by omega
        have hne : ((b : Int) == (s.size : Int)) = false := beq_eq_false_iff_ne.2 (by omega)
        by_cases hc : s[b] = 32
        · have b2 : ((s[b].toNat : Int) == 32) = true := by rw [hc]; rfl
          have HE := Lib.hid (show LP s (l ++ [X]) (b + 1) (b + 1) by rw [← hX]; exact HRP.out.cut hlt hc)
          clear hc
          go_wp2_with (at_builtin; go_loud (refine wpList_append_own _ rfl _ _ 22 rfl w.heap.size 9 i0 (.string ⟨#[]⟩) 1 16 Tryd.underlying22 hi hz0 hz1 hz2 rfl (by decide) _ _ _ rfl (HR.out.alloc _) ⟨wr.heap.size, 0, none⟩ 1 1 [.string X] rfl rfl (cell_one_made _ _ _) (by simp [Value.oneCell']) (by unfold maxLen; omega) (by omega) (Nat.le_trans hszr (by simp)) ?_; intro v' w5 hown' hgrow _; have HB5 := Lib.hid (HB.out.trans (((Below.refl _ wr).alloc hszr _).grown hgrow (by simp; omega) (fun j ej => (HR.out.lt j ej).1))); have HO := Lib.hid hown'; clear hown' hgrow))
          go_roundw
          case rel => exact ⟨l ++ [X], b + 1, b + 1, by go_num, by go_num, by omega, by omega, by simp; omega, Lib.hid (by rw [List.length_append, strVs_snoc]; exact HO.out), HB5, Lib.hid ⟨fun _ => HE.out, fun h => absurd h (by omega)⟩⟩
          case measure => simp [intOf]; omega
        · have b2 : ((s[b].toNat : Int) == 32) = false := beq_eq_false_iff_ne.2 (fun e => hc (UInt8.toNat_inj.1 (by simpa using Int.ofNat_inj.1 e)))
          have HS2 := Lib.hid (HRP.out.go hlt hc)
          clear hc
          go_wp2
          go_roundw
          case rel => exact ⟨l, a, b + 1, rfl, by go_num, by omega, ha, by omega, HR, HB, Lib.hid ⟨fun _ => HS2.out, fun h => absurd h (by omega)⟩⟩
          case measure => simp [intOf]; omega
      · have hbe : b = s.size := by omega
        have hlti : ¬ (b : Int) < (s.size : Int) := by omega
        have hne : ((b : Int) == (s.size : Int)) = true := beq_iff_eq.2 (by omega)
        have HE := Lib.hid (by subst hbe; rw [← hX]; exact HRP.out.last : Parts 32 s (l ++ [X]))
        clear hbe
        go_wp2_with (at_builtin; go_loud (refine wpList_append_own _ rfl _ _ 22 rfl w.heap.size 9 i0 (.string ⟨#[]⟩) 1 16 Tryd.underlying22 hi hz0 hz1 hz2 rfl (by decide) _ _ _ rfl (HR.out.alloc _) ⟨wr.heap.size, 0, none⟩ 1 1 [.string X] rfl rfl (cell_one_made _ _ _) (by simp [Value.oneCell']) (by unfold maxLen; omega) (by omega) (Nat.le_trans hszr (by simp)) ?_; intro v' w5 hown' hgrow _; have HB5 := Lib.hid (HB.out.trans (((Below.refl _ wr).alloc hszr _).grown hgrow (by simp; omega) (fun j ej => (HR.out.lt j ej).1))); have HO := Lib.hid hown'; clear hown' hgrow))
        go_roundw
        case rel => exact ⟨l ++ [X], b + 1, b + 1, by go_num, by go_num, by omega, by omega, by simp; omega, Lib.hid (by rw [List.length_append, strVs_snoc]; exact HO.out), HB5, Lib.hid ⟨fun h => absurd h (by omega), fun _ => HE.out⟩⟩
        case measure => simp [intOf]; omega
    · have hbe : b = s.size + 1 := by omega
      have hlei : ¬ (b : Int) ≤ (s.size : Int) := by omega
      have HE := Lib.hid (HP.out.2 hbe)
      clear hbe
      have HT := Lib.hid (texts_of_row HR.out)
      go_wp2
      go_ret
      exact ⟨⟨l, HE.out, _, rfl, HT.out⟩, HB.out⟩
set_option maxRecDepth 100000 in
theorem rvalue_any (x : UInt8) (w : World) : Calls Tryd.prog 29 #[.int .u8 (x.toNat : Int)] w fun e w' => e = .returned (.int .i64 (hexV x)) ∧ w = w' := by
  have hx := x.toNat_lt
  have hw0 : IntKind.i64.wrap (x.toNat : Int) = (x.toNat : Int) := wrapI _ (by omega) (by omega)
  by_cases h : 97 ≤ x.toNat
  · have hl : (97 : Int) ≤ (x.toNat : Int) := by omega
    obtain ⟨y, hy⟩ : ∃ y : Nat, (x.toNat : Int) - 97 = (y : Int) := ⟨x.toNat - 97, by omega⟩
    have hv : hexV x = (y : Int) + 10 := by unfold hexV; rw [if_pos h]; omega
    rw [hv]
    have hw : IntKind.u8.wrap (y : Int) = (y : Int) := by simp [IntKind.wrap, IntKind.bits, IntKind.signed]; omega
    have hw1 : IntKind.i64.wrap (y : Int) = (y : Int) := wrapI _ (by omega) (by omega)
    have hw2 : IntKind.i64.wrap ((y : Int) + 10) = (y : Int) + 10 := wrapI _ (by omega) (by omega)
    clear hv h
    go_enter Tryd.func29, Tryd.ntmps29
    go_wp2
    go_ret
    exact ⟨rfl, rfl⟩
  · have hl : ¬ (97 : Int) ≤ (x.toNat : Int) := by omega
    have hv : hexV x = (x.toNat : Int) - 48 := by unfold hexV; rw [if_neg h]
    rw [hv]
    have hw1 : IntKind.i64.wrap ((x.toNat : Int) - 48) = (x.toNat : Int) - 48 := wrapI _ (by omega) (by omega)
    clear hv h
    go_enter Tryd.func29, Tryd.ntmps29
    go_wp2
    go_ret
    exact ⟨rfl, rfl⟩
end Go.Proofs.YtmloljjllmmkoaaDoor

