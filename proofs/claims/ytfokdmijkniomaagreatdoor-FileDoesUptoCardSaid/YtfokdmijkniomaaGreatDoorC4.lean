/-
  CmdX / CmdO / CmdR.
-/
import Derived.Test.YtfokdmijkniomaaGreatDoorC3
import Derived.Test.YtfokdmijkniomaaGreatDoorKS
import Derived.Lib.ItoaLen
import Derived.Lib.SmallJoins
namespace Go.Proofs.YtfokdmijkniomaaGreatDoor
open Go.RowKit Go

/-! ### Closed calls -/
theorem line_le {c : Cmd} {k : Nat} (hk : k < 9) (hp : IntOk c.place) (hd : c.data.size ≤ 512) : (lineK k c).length ≤ 7 + c.path.size + c.dest.size + 1100 := by
  have h1 : c.path.data.toList.length = c.path.size := Array.length_toList (xs := c.path.data)
  have h2 : c.dest.data.toList.length = c.dest.size := Array.length_toList (xs := c.dest.data)
  have h3 : (Lib.itoa c.place).length ≤ 21 := Lib.itoa_length_le _ hp.1 hp.2
  have h4 : (hexW c.data.data.toList).length ≤ 1024 := by
    have h5 : c.data.data.toList.length = c.data.size := Array.length_toList (xs := c.data.data)
    unfold hexW
    split
    · simp
    · rw [flat_hex_len]; omega
  rcases below9 hk with rfl | rfl | rfl | rfl | rfl | rfl | rfl | rfl | rfl <;>
    simp only [lineK, wordsC, fldK, List.map_cons, List.map_nil, fldLay, joinB, wordK, List.length_append, List.length_cons, bs_list, List.length_nil] <;> omega
end Go.Proofs.YtfokdmijkniomaaGreatDoor

namespace Go.Proofs.YtfokdmijkniomaaGreatDoor
open Go.ChangeShapes Go.WideShapes Go.ChangeAt Go.RowKit Go
structure CmdOk (c : Cmd) : Prop where
  kind : IntOk c.kind
  place : IntOk c.place
  path : c.path.size ≤ 140737488351232
  dest : c.dest.size ≤ 140737488351232
  data : c.data.size ≤ 140737488351232
end Go.Proofs.YtfokdmijkniomaaGreatDoor

namespace Go.Proofs.YtfokdmijkniomaaGreatDoor
open Go.RowKit Go

theorem join_prefix {c : UInt8} : ∀ {ps qs : List ByteArray} {R : List UInt8}, ps ≠ [] → qs ≠ [] → (∀ p ∈ ps, NoB c p) → (∀ q ∈ qs, NoB c q) → joinB c qs = joinB c ps ++ c :: R → ∃ qs', qs = ps ++ qs' ∧ qs' ≠ []
  | [], _, _, h, _, _, _, _ => absurd rfl h
  | _, [], _, _, h, _, _, _ => absurd rfl h
  | [p], [q], R, _, _, _, hq, h => by
    have h : q.data.toList = p.data.toList ++ c :: R := h
    exact absurd (show c ∈ q.data.toList by rw [h]; simp) (hq q (by simp))
  | [p], q :: q1 :: r, R, _, _, hp, hq, h => by
    have h : q.data.toList ++ c :: joinB c (q1 :: r) = p.data.toList ++ c :: R := h
    obtain ⟨e1, _⟩ := first_inj (hq q (by simp)) (hp p (by simp)) h
    exact ⟨q1 :: r, by rw [ba_ext e1]; rfl, by simp⟩
  | p :: p1 :: t, [q], R, _, _, _, hq, h => by
    have h : q.data.toList = (p.data.toList ++ c :: joinB c (p1 :: t)) ++ c :: R := h
    exact absurd (show c ∈ q.data.toList by rw [h]; simp) (hq q (by simp))
  | p :: p1 :: t, q :: q1 :: r, R, _, _, hp, hq, h => by
    have h : q.data.toList ++ c :: joinB c (q1 :: r) = (p.data.toList ++ c :: joinB c (p1 :: t)) ++ c :: R := h
    rw [List.append_assoc, List.cons_append] at h
    obtain ⟨e1, e2⟩ := first_inj (hq q (by simp)) (hp p (by simp)) h
    obtain ⟨qs', h1, h2⟩ := join_prefix (by simp) (by simp) (fun x hx => hp x (List.mem_cons_of_mem _ hx)) (fun x hx => hq x (List.mem_cons_of_mem _ hx)) e2
    exact ⟨qs', by rw [h1, ba_ext e1]; rfl, h2⟩
theorem join_last {c d : UInt8} {x y : ByteArray} (h : y.data.toList = x.data.toList ++ [d]) : ∀ (l : List ByteArray), joinB c (l ++ [y]) = joinB c (l ++ [x]) ++ [d] := by
  intro l
  by_cases hl : l = []
  · subst hl; exact h
  · rw [joinB_snoc hl, joinB_snoc hl, h]; simp
theorem ext_step {s : ByteArray} {f i : Nat} (hf : f ≤ i) (hi : i < s.size) : (s.extract f (i + 1)).data.toList = (s.extract f i).data.toList ++ [s[i]] := by
  have hs : s.data.toList.length = s.size := Array.length_toList (xs := s.data)
  rw [Lib.extract_data, Lib.extract_data, show i + 1 - f = (i - f) + 1 by omega, List.take_succ_eq_append_getElem (by rw [List.length_drop]; omega)]
  congr 1
  have : (s.data.toList.drop f)[i - f]'(by rw [List.length_drop]; omega) = s.data.toList[i] := by
    rw [List.getElem_drop]
    congr 1
    omega
  rw [this]
  rfl
theorem ext_none (s : ByteArray) (i : Nat) : (s.extract i i).data.toList = [] := by rw [Lib.extract_data]; simp
/-- how the reference's loop stands: the names so far, where the next one begins, where it reads -/
structure RP (s : ByteArray) (l : List ByteArray) (f i : Nat) : Prop where
  names : ∀ n ∈ l, NameOk n
  len : l.length ≤ 8
  ord : f ≤ i ∧ i ≤ s.size
  no : NoB 47 (s.extract f i)
  text : 47 :: joinB 47 (l ++ [s.extract f i]) = s.data.toList.take i
theorem RP.noB {s : ByteArray} {l : List ByteArray} {f i : Nat} (h : RP s l f i) : ∀ p ∈ l ++ [s.extract f i], NoB 47 p := fun p hp => by
  rcases List.mem_append.1 hp with hp | hp
  · exact (h.names p hp).noB.1
  · rw [List.mem_singleton.1 hp]; exact h.no
theorem RP.start {s : ByteArray} {r : List UInt8} (h : s.data.toList = 47 :: r) : RP s [] 1 1 := by
  have hs : s.data.toList.length = s.size := Array.length_toList (xs := s.data)
  refine ⟨by simp, by simp, ⟨Nat.le_refl _, by rw [← hs, h]; simp⟩, by unfold NoB; rw [ext_none]; simp, ?_⟩
  show 47 :: (s.extract 1 1).data.toList = _
  rw [ext_none, h]; rfl
theorem RP.go {s : ByteArray} {l : List ByteArray} {f i : Nat} (h : RP s l f i) (hi : i < s.size) (hb : s[i] ≠ 47) : RP s l f (i + 1) := by
  have hs : s.data.toList.length = s.size := Array.length_toList (xs := s.data)
  have he := ext_step h.ord.1 hi
  refine ⟨h.names, h.len, ⟨by have := h.ord.1; omega, hi⟩, fun hm => ?_, ?_⟩
  · rw [he] at hm
    rcases List.mem_append.1 hm with hm | hm
    · exact h.no hm
    · exact hb (List.mem_singleton.1 hm).symm
  · rw [join_last he, ← List.cons_append, h.text, List.take_succ_eq_append_getElem (by omega)]
    rfl
theorem RP.cut {s : ByteArray} {l : List ByteArray} {f i : Nat} (h : RP s l f i) (hi : i < s.size) (hb : s[i] = 47) (hn : NameOk (s.extract f i)) (hl : l.length ≠ 8) : RP s (l ++ [s.extract f i]) (i + 1) (i + 1) := by
  have hs : s.data.toList.length = s.size := Array.length_toList (xs := s.data)
  refine ⟨fun n hm => ?_, by have := h.len; simp; omega, ⟨Nat.le_refl _, hi⟩, by unfold NoB; rw [ext_none]; simp, ?_⟩
  · rcases List.mem_append.1 hm with hm | hm
    · exact h.names n hm
    · rw [List.mem_singleton.1 hm]; exact hn
  · rw [joinB_snoc (by simp), ext_none, ← List.cons_append, h.text, List.take_succ_eq_append_getElem (by omega)]
    congr 2
    exact hb.symm
theorem path_join {s : ByteArray} {m : List ByteArray} (h : IsPath s m) (h1 : s.data.toList ≠ [47]) : m ≠ [] ∧ s.data.toList = 47 :: joinB 47 m := by
  rcases h.2.2 with ⟨_, e⟩ | h
  · exact absurd e h1
  · exact h
theorem RP.bad {s : ByteArray} {l : List ByteArray} {f i : Nat} (h : RP s l f i) (h1 : s.data.toList ≠ [47]) (hi : i = s.size ∨ ∃ hi : i < s.size, s[i] = 47) (hb : ¬ NameOk (s.extract f i) ∨ l.length = 8) (m : List ByteArray) : ¬ IsPath s m := by
  intro hp
  obtain ⟨hm, e⟩ := path_join hp h1
  have hs : s.data.toList.length = s.size := Array.length_toList (xs := s.data)
  have key : ∃ m', m = (l ++ [s.extract f i]) ++ m' := by
    rcases hi with rfl | ⟨hi, hb⟩
    · have ht := h.text
      rw [List.take_of_length_le (by omega), e] at ht
      have := joinB_inj (by simp) hm h.noB (fun q hq => (hp.1 q hq).noB.1) (List.cons.inj ht).2
      exact ⟨[], by rw [List.append_nil, this]⟩
    · have ht := h.text
      have hd : s.data.toList = s.data.toList.take i ++ 47 :: s.data.toList.drop (i + 1) := by
        have he : s.data.toList[i]'(by omega) = 47 := hb
        rw [← he, ← List.drop_eq_getElem_cons (by omega), List.take_append_drop]
      rw [← ht, e, List.cons_append] at hd
      obtain ⟨m', h2, _⟩ := join_prefix (by simp) hm h.noB (fun q hq => (hp.1 q hq).noB.1) (List.cons.inj hd).2
      exact ⟨m', h2⟩
  obtain ⟨m', rfl⟩ := key
  rcases hb with hb | hb
  · exact hb (hp.1 _ (by simp))
  · have := hp.2.1
    simp at this
    omega
theorem RP.last {s : ByteArray} {l : List ByteArray} {f : Nat} (h : RP s l f s.size) (hn : NameOk (s.extract f s.size)) (hl : l.length ≠ 8) : IsPath s (l ++ [s.extract f s.size]) := by
  have hs : s.data.toList.length = s.size := Array.length_toList (xs := s.data)
  refine ⟨fun n hm => ?_, by have := h.len; simp; omega, .inr ⟨by simp, ?_⟩⟩
  · rcases List.mem_append.1 hm with hm | hm
    · exact h.names n hm
    · rw [List.mem_singleton.1 hm]; exact hn
  · rw [h.text, List.take_of_length_le (by omega)]
/-- what the reference's Path answers -/
def RPathE (s : ByteArray) (e : Ending) (w' : World) : Prop :=
  (∃ l v, IsPath s l ∧ e = .returned (.tuple #[v, .int .i64 0]) ∧ TextsAt w' v l) ∨ ((∀ l, ¬ IsPath s l) ∧ e = .returned (.tuple #[.slice none 0 0, .int .i64 130]))
theorem owns_none (w : World) {B : Nat} (hB : B ≤ w.heap.size) (t : TypeId) : (w.alloc (.cells #[] t)).ownsRow B t 1 (.slice (some ⟨w.heap.size, 0, none⟩) 0 0) 0 [] :=
  ⟨rfl, .inr ⟨w.heap.size, 0, #[], rfl, hB, heap_alloc_new _ _, Nat.le_refl _, by unfold maxLen; omega, rfl, rfl⟩⟩
set_option maxRecDepth 100000 in
set_option maxHeartbeats 8000000 in
theorem rpath_any (s : ByteArray) (hs : s.size ≤ 281474976710656) (w : World) :
    Calls Tryz.prog 41 #[.string s] w fun e w' => RPathE s e w' ∧ Below w.heap.size w w' := by
  obtain ⟨w1, hw1⟩ : ∃ w1, w.alloc (.cells #[] 9) = w1 := ⟨_, rfl⟩
  have hB1 : Below w.heap.size w w1 := by rw [← hw1]; exact (Below.refl _ w).alloc (Nat.le_refl _) _
  have hr1 : w1.ownsRow w.heap.size 9 1 (.slice (some ⟨w.heap.size, 0, none⟩) 0 0) 0 [] := by rw [← hw1]; exact owns_none w (Nat.le_refl _) _
  have HB1 := Lib.hid hB1
  have HR1 := Lib.hid hr1
  clear hB1 hr1
  by_cases h0 : s.toList = [47]
  · have b0 : (s.toList == [47]) = true := beq_iff_eq.2 h0
    have HE := Lib.hid (show IsPath s [] from ⟨by simp, by simp, .inl ⟨rfl, by rw [← toList_eq, h0]⟩⟩)
    clear h0
    go_enter Tryz.func41, Tryz.ntmps41
    go_wp2
    go_ret2
    exact ⟨.inl ⟨[], _, HE.out, rfl, ⟨_, 0, rfl, fun h => absurd rfl h⟩⟩, HB1.out⟩
  · have b0 : (s.toList == [47]) = false := beq_eq_false_iff_ne.2 h0
    rw [toList_eq] at h0
    have H0 := Lib.hid h0
    by_cases h1 : s.size = 0
    · have hl : s.data.toList = [] := List.eq_nil_of_length_eq_zero (by rw [len_of]; exact h1)
      have b1 : s.toList.isEmpty = true := by rw [toList_eq, hl]; rfl
      have HE := Lib.hid (show ∀ l, ¬ IsPath s l from fun l h => by
        obtain ⟨_, e⟩ := path_join h H0.out
        rw [hl] at e; cases e)
      have hz : (s.size : Int) = 0 := by omega
      clear h0 h1 hl
      go_enter Tryz.func41, Tryz.ntmps41
      go_wp2
      go_ret2
      exact ⟨.inr ⟨HE.out, rfl⟩, HB1.out⟩
    · have hpos : 0 < s.size := by omega
      have hposi : (0 : Int) < (s.size : Int) := by omega
      have b1 : s.toList.isEmpty = false := by
        rw [toList_eq]
        cases h : s.data.toList with
        | nil => rw [← len_of, h] at h1; exact absurd rfl h1
        | cons _ _ => rfl
      by_cases h2 : s[0] = 47
      · have b2 : ((s[0].toNat : Int) != 47) = false := by rw [h2]; rfl
        have HS := Lib.hid (show RP s [] 1 1 from by
          have hl : s.data.toList = s[0] :: s.data.toList.drop 1 := by
            have := List.drop_eq_getElem_cons (l := s.data.toList) (i := 0) (by rw [len_of]; exact hpos)
            rw [List.drop_zero] at this
            exact this
          exact RP.start (by rw [hl, h2]))
        obtain ⟨i0, hi, hz0, hz1, hz2⟩ := info_parts info9
        have hsz1 := HB1.out.size
        have HR1' := Lib.hid (show w1.ownsRow w.heap.size 9 1 (.slice (some ⟨w.heap.size, 0, none⟩) 0 0) ([] : List ByteArray).length (strVs []) from HR1.out)
        clear h0 h1 h2
        go_enter Tryz.func41, Tryz.ntmps41
        go_wp2
        clear b2 hw1
        go_loopw [4, 5, 6] (fun v f i wr => ∃ (l : List ByteArray) (a b : Nat), f = .int .i64 a ∧ i = .int .i64 b ∧ b ≤ s.size + 1 ∧ a ≤ s.size + 1 ∧ l.length ≤ 8 ∧ Hid (wr.ownsRow w.heap.size 9 1 v l.length (strVs l)) ∧ Hid (Below w.heap.size w wr) ∧ Hid ((b ≤ s.size → RP s l a b) ∧ (b = s.size + 1 → IsPath s l))) (fun _ _ i _ => s.size + 1 - (intOf i).toNat)
        case atStart => exact ⟨[], 1, 1, rfl, rfl, by omega, by omega, by simp, HR1', HB1, Lib.hid ⟨fun _ => HS.out, fun h => absurd h (by omega)⟩⟩
        case round =>
          obtain ⟨l, a, b, rfl, rfl, hb, ha, hl8, HR, HB, HP⟩ := hrel
          obtain ⟨n, hn⟩ : ∃ n, l.length = n := ⟨_, rfl⟩
          obtain ⟨ad, cap, rfl⟩ : ∃ ad cap, u4 = .slice ad n cap := by
            rcases HR.out.2 with ⟨e, e2⟩ | ⟨g, cap, cur, e, _⟩
            · exact ⟨none, 0, by rw [e, ← hn, e2]⟩
            · exact ⟨_, cap, by rw [e, hn]⟩
          by_cases hle : b ≤ s.size
          · have hlei : (b : Int) ≤ (s.size : Int) := by omega
            have HRP := Lib.hid (HP.out.1 hle)
            obtain ⟨ho1, _⟩ := HRP.out.ord
            by_cases hlt : b < s.size
            · have hlti : (b : Int) < (s.size : Int) := by omega
              by_cases hc : s[b] = 47
              · have b2 : ((s[b].toNat : Int) != 47) = false := by rw [hc]; rfl
                have hX16 : True := trivial
                obtain ⟨X, hX⟩ : ∃ X, s.extract a b = X := ⟨_, rfl⟩
                have hXs : X.size ≤ 281474976710656 := by rw [← hX, ByteArray.size_extract]; omega
                have CN := fun w => rname_any X hXs w
                have hszr := HB.out.size
                have hab : (a : Int) ≤ (b : Int) := by omega
                have ha0 : (0 : Int) ≤ (a : Int) := by omega
                have hex : s.extract ((a : Int).toNat) ((b : Int).toNat) = X := hX
                have hBad := Lib.hid (fun (h : ¬ NameOk X ∨ l.length = 8) => HRP.out.bad H0.out (.inr ⟨hlt, hc⟩) (by rw [hX]; exact h))
                have hGood := Lib.hid (fun (h : NameOk X) (h8 : l.length ≠ 8) => (hX ▸ HRP.out.cut hlt hc (hX.symm ▸ h) h8 : RP s (l ++ [X]) (b + 1) (b + 1)))
                clear hc
                by_cases hnm : NameOk X
                · rw [nameB_yes hnm] at CN
                  by_cases h8 : l.length = 8
                  · have HE := Lib.hid (hBad.out (.inr h8))
                    have hl8i : ((l.length : Int) == 8) = true := by rw [h8]; rfl
                    rw [hn] at hl8i
                    clear hnm h8
                    go_wp2_with (refine (CN _).mono ?_; rintro e w' ⟨rfl, rfl⟩)
                    go_ret2
                    exact ⟨.inr ⟨HE.out, rfl⟩, HB.out⟩
                  · have HE := Lib.hid (hGood.out hnm h8)
                    have h9 : l.length + 1 ≤ 8 := by omega
                    have hl8i : ((l.length : Int) == 8) = false := beq_eq_false_iff_ne.2 (by omega)
                    rw [hn] at hl8i
                    clear hnm h8
                    go_wp2_with fail
                    refine (CN _).mono ?_
                    rintro e w' ⟨rfl, rfl⟩
                    go_wp2_with (at_builtin; go_loud (refine wpList_append_own _ rfl _ _ 45 rfl w.heap.size 9 i0 (.string ⟨#[]⟩) 1 16 Tryz.underlying45 hi hz0 hz1 hz2 rfl (by decide) _ _ _ rfl (HR.out.alloc _) ⟨wr.heap.size, 0, none⟩ 1 1 [.string X] rfl rfl (cell_one_made _ _ _) (by simp [Value.oneCell']) (by unfold maxLen; omega) (by omega) (Nat.le_trans hszr (by simp)) ?_; intro v' w5 hown' hgrow _; have HB5 := Lib.hid (HB.out.trans (((Below.refl _ wr).alloc hszr _).grown hgrow (by simp; omega) (fun j ej => (HR.out.lt j ej).1))); have HO := Lib.hid hown'; clear hown' hgrow))
                    go_roundw
                    case rel => exact ⟨l ++ [X], b + 1, b + 1, by go_num, by go_num, by omega, by omega, by simp; omega, Lib.hid (by rw [List.length_append, strVs_snoc]; exact HO.out), HB5, Lib.hid ⟨fun _ => HE.out, fun h => absurd h (by omega)⟩⟩
                    case measure => simp [intOf]; omega
                · rw [nameB_no hnm] at CN
                  have HE := Lib.hid (hBad.out (.inl hnm))
                  clear hnm
                  go_wp2_with (refine (CN _).mono ?_; rintro e w' ⟨rfl, rfl⟩)
                  go_ret2
                  exact ⟨.inr ⟨HE.out, rfl⟩, HB.out⟩
              · have b2 : ((s[b].toNat : Int) != 47) = true := bne_iff_ne.2 (fun e => hc (UInt8.toNat_inj.1 (by simpa using Int.ofNat_inj.1 e)))
                have HS2 := Lib.hid (HRP.out.go hlt hc)
                clear hc
                go_wp2
                go_roundw
                case rel => exact ⟨l, a, b + 1, rfl, by go_num, by omega, ha, hl8, HR, HB, Lib.hid ⟨fun _ => HS2.out, fun h => absurd h (by omega)⟩⟩
                case measure => simp [intOf]; omega
            · have hbe : b = s.size := by omega
              have hlti : ¬ (b : Int) < (s.size : Int) := by omega
              have hX16 : True := trivial
              obtain ⟨X, hX⟩ : ∃ X, s.extract a b = X := ⟨_, rfl⟩
              have hXs : X.size ≤ 281474976710656 := by rw [← hX, ByteArray.size_extract]; omega
              have CN := fun w => rname_any X hXs w
              have hszr := HB.out.size
              have hab : (a : Int) ≤ (b : Int) := by omega
              have ha0 : (0 : Int) ≤ (a : Int) := by omega
              have hex : s.extract ((a : Int).toNat) ((b : Int).toNat) = X := hX
              have hBad := Lib.hid (fun (h : ¬ NameOk X ∨ l.length = 8) => HRP.out.bad H0.out (.inl hbe) (by rw [hX]; exact h))
              have hGood := Lib.hid (fun (h : NameOk X) (h8 : l.length ≠ 8) => (by subst hbe; rw [← hX]; exact HRP.out.last (by rw [hX]; exact h) h8 : IsPath s (l ++ [X])))
              clear hX16 hbe
              by_cases hnm : NameOk X
              · rw [nameB_yes hnm] at CN
                by_cases h8 : l.length = 8
                · have HE := Lib.hid (hBad.out (.inr h8))
                  have hl8i : ((l.length : Int) == 8) = true := by rw [h8]; rfl
                  rw [hn] at hl8i
                  clear hnm h8
                  go_wp2_with (refine (CN _).mono ?_; rintro e w' ⟨rfl, rfl⟩)
                  go_ret2
                  exact ⟨.inr ⟨HE.out, rfl⟩, HB.out⟩
                · have HE := Lib.hid (hGood.out hnm h8)
                  have h9 : l.length + 1 ≤ 8 := by omega
                  have hl8i : ((l.length : Int) == 8) = false := beq_eq_false_iff_ne.2 (by omega)
                  rw [hn] at hl8i
                  clear hnm h8
                  go_wp2_with fail
                  refine (CN _).mono ?_
                  rintro e w' ⟨rfl, rfl⟩
                  go_wp2_with (at_builtin; go_loud (refine wpList_append_own _ rfl _ _ 45 rfl w.heap.size 9 i0 (.string ⟨#[]⟩) 1 16 Tryz.underlying45 hi hz0 hz1 hz2 rfl (by decide) _ _ _ rfl (HR.out.alloc _) ⟨wr.heap.size, 0, none⟩ 1 1 [.string X] rfl rfl (cell_one_made _ _ _) (by simp [Value.oneCell']) (by unfold maxLen; omega) (by omega) (Nat.le_trans hszr (by simp)) ?_; intro v' w5 hown' hgrow _; have HB5 := Lib.hid (HB.out.trans (((Below.refl _ wr).alloc hszr _).grown hgrow (by simp; omega) (fun j ej => (HR.out.lt j ej).1))); have HO := Lib.hid hown'; clear hown' hgrow))
                  go_roundw
                  case rel => exact ⟨l ++ [X], b + 1, b + 1, by go_num, by go_num, by omega, by omega, by simp; omega, Lib.hid (by rw [List.length_append, strVs_snoc]; exact HO.out), HB5, Lib.hid ⟨fun h => absurd h (by omega), fun _ => HE.out⟩⟩
                  case measure => simp [intOf]; omega
              · rw [nameB_no hnm] at CN
                have HE := Lib.hid (hBad.out (.inl hnm))
                clear hnm
                go_wp2_with (refine (CN _).mono ?_; rintro e w' ⟨rfl, rfl⟩)
                go_ret2
                exact ⟨.inr ⟨HE.out, rfl⟩, HB.out⟩
          · have hbe : b = s.size + 1 := by omega
            have hlei : ¬ (b : Int) ≤ (s.size : Int) := by omega
            have HE := Lib.hid (HP.out.2 hbe)
            clear hbe
            have HT := Lib.hid (texts_of_row HR.out)
            go_wp2
            go_ret2
            exact ⟨.inl ⟨l, _, HE.out, rfl, HT.out⟩, HB.out⟩
      · have b2 : ((s[0].toNat : Int) != 47) = true := bne_iff_ne.2 (fun e => h2 (UInt8.toNat_inj.1 (by simpa using Int.ofNat_inj.1 e)))
        have HE := Lib.hid (show ∀ l, ¬ IsPath s l from fun l h => by
          obtain ⟨_, e⟩ := path_join h H0.out
          have hl : s.data.toList = s[0] :: s.data.toList.drop 1 := by
            have := List.drop_eq_getElem_cons (l := s.data.toList) (i := 0) (by rw [len_of]; exact hpos)
            rw [List.drop_zero] at this
            exact this
          rw [hl] at e
          exact h2 (List.cons.inj e).1)
        clear h0 h1 h2
        go_enter Tryz.func41, Tryz.ntmps41
        go_wp2
        go_ret2
        exact ⟨.inr ⟨HE.out, rfl⟩, HB1.out⟩
end Go.Proofs.YtfokdmijkniomaaGreatDoor

