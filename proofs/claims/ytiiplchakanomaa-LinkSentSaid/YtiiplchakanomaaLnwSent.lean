/-
  What is taken was sent, or is one that was, with one byte turned; a message that goes late comes within its steps (of at most 100 messages): for every list of calls.
  Conditions: none besides the row's own.
-/
import Derived.Test.YtiiplchakanomaaLnkOrd
import Derived.Test.YtiiplchakanomaaLnkOps
import Derived.Test.YtiiplchakanomaaLnkGood
import Derived.Test.YtiiplchakanomaaKitM
import Derived.Deep.QuietTactic
import Derived.Deep.RegionLaw
namespace Go.Proofs.Ytiiplchakanomaa.lsent
open Go.Proofs.Ytiiplchakanomaa
open Go.ChangeShapes Go.WideShapes Go.ChangeAt Go.RowKit Go

/-- what is held behind k calls -/
def Ph (w0 : World) (b k : Nat) (L : List ByteArray) (T : List Lte) (S : List ByteArray) (x : Value) (w : World) : Prop :=
  Ord w0 4096 b L T S x w ∧ Good S L T ∧ L.length + T.length ≤ 2 * k ∧ LateOk T

/-- what is held behind j steps more -/
def Q (w0 : World) (b : Nat) (S : List ByteArray) (x : Value) (j : Nat) (L : List ByteArray) (T : List Lte) (w : World) : Prop :=
  Ord w0 4096 b L T S x w ∧ Good S L T ∧ L.length + T.length ≤ 200 ∧ LateOk T ∧ Due T j ∧ (9 ≤ j → L = [])

set_option maxRecDepth 100000 in
set_option maxHeartbeats 16000000 in
theorem walk (v0 : Value) (l : List (Int × ByteArray × Int × Int × Int)) (w : World) (hO : OpsAt w v0 l) (hl : OpsOk l) :
    Calls Try.prog 5 #[v0] w fun e w' => e = .returned (.bool true) ∧ Below w.heap.size w w' := by
  obtain ⟨i0, hi0, hz0, hz1, hz2⟩ := info_parts infoStr
  obtain ⟨aa, capa, rfl, ha⟩ := hO
  have HA := Lib.hid ha
  have HL := Lib.hid hl
  have C0 := lg_new (w0 := w) 4096 (by decide) (by decide) (Below.refl _ w)
  rw [show ((4096 : Nat) : Int) = 4096 from rfl] at C0
  obtain ⟨b, hb⟩ : ∃ b, w.heap.size = b := ⟨_, rfl⟩
  rw [hb] at C0
  clear ha hl
  go_enter Try.func5, Try.ntmps5
  go_wp2_with fail
  refine C0.mono ?_
  rintro e w1 ⟨rfl, h1, -⟩
  obtain ⟨w2, hw2⟩ : ∃ w2, w1.alloc (.cells #[] 9) = w2 := ⟨_, rfl⟩
  have H2 := Lib.hid (show Ph w b 0 [] [] [] (.slice (some ⟨w1.heap.size, 0, none⟩) 0 0) w2 from ⟨Ord.start h1 hw2, ⟨fun x hx => (by cases hx), fun x hx => (by cases hx)⟩, Nat.le_refl _, fun x hx => (by cases hx)⟩)
  clear C0 h1 hb
  go_wp2_with fail
  go_loopw [5, 6] (fun x i wr => ∃ (k : Nat) (L : List ByteArray) (T : List Lte) (S : List ByteArray), k ≤ l.length ∧ k ≤ 100 ∧ i = .int .i64 k ∧ (Ph w b k L T S x wr ∧ S.length ≤ k ∧ ∀ s ∈ S, s.size ≤ 140737488351232)) (fun _ i _ => 100 - (intOf i).toNat)
  case atStart => exact ⟨0, [], [], [], Nat.zero_le _, Nat.zero_le _, rfl, H2.out, Nat.le_refl _, fun s hs => (by cases hs)⟩
  case round =>
    clear H2
    obtain ⟨k, L, T, S, hk1, hk2, rfl, ⟨hor, hgood, hlen, hlate⟩, hSn, hSs⟩ := hrel
    by_cases hlt : k < l.length ∧ k < 100
    · obtain ⟨t1, t2⟩ := hlt
      have HK := Lib.hid (And.intro t1 t2)
      have hwk := wrap_up t2 (by decide)
      obtain ⟨ba, off, rfl, hba, hcells⟩ := HA.out (by intro e; rw [e] at t1; simp at t1)
      obtain ⟨c0, c1, c2, c3, c4⟩ := hcells k t1
      obtain ⟨z0, z1, z2, z3, z4⟩ := HL.out.2 _ (List.getElem_mem t1)
      obtain ⟨q0, hq0⟩ : ∃ q0, l[k] = q0 := ⟨_, rfl⟩
      rw [hq0] at c0 c1 c2 c3 c4 z0 z1 z2 z3 z4
      rw [← opF_mask z3] at c4
      obtain ⟨f, hf⟩ : ∃ f, opF q0 = f := ⟨_, rfl⟩
      rw [hf] at c4
      rw [show q0.2.2.1 = f.kind by rw [← hf]; rfl] at c2
      rw [show q0.2.2.2.1 = f.n by rw [← hf]; rfl] at c3 z2
      generalize q0.1 = K at c0
      generalize q0.2.1 = s at c1 z4
      have HC0 := Lib.hid c0
      have HC1 := Lib.hid c1
      have HBA := Lib.hid hba
      have d1 := (hor.below.cell (p := ⟨ba, off + k * 5 + 1, none⟩) hba).trans c1
      have d2 := (hor.below.cell (p := ⟨ba, off + k * 5 + 2, none⟩) hba).trans c2
      have d3 := (hor.below.cell (p := ⟨ba, off + k * 5 + 3, none⟩) hba).trans c3
      have d4 := (hor.below.cell (p := ⟨ba, off + k * 5 + 4, none⟩) hba).trans c4
      have HG := Lib.hid (show Good S L T ∧ L.length + T.length ≤ 2 * k ∧ LateOk T from ⟨hgood, hlen, hlate⟩)
      have HSN := Lib.hid hSn
      have HSS := Lib.hid (show ∀ s' ∈ S ++ [s], s'.size ≤ 140737488351232 from fun s' hs' => by
        rcases List.mem_append.1 hs' with h | h
        · exact hSs s' h
        · obtain rfl := List.mem_singleton.1 h
          exact z4)
      have hor2 := hor.later ((Below.refl _ _).drew)
      have C1 := hor2.send (by decide) (by clear hwk; omega) s z4 f z2.2
      obtain ⟨E, hE⟩ : ∃ E, sendE f = E := ⟨_, rfl⟩
      rw [hE] at C1
      unfold fteV at C1
      have e1' : (k : Int) < (l.length : Int) := by clear hwk; omega
      have e2' : (k : Int) < 100 := by clear hwk; omega
      clear hcells hk1 hk2 t1 t2 c0 c1 c2 c3 c4 z0 z1 z2 z3 z4 hf hq0 hor hor2 hgood hlen hlate hSs hSn hba
      go_wp2_with fail
      go_region_law (first
        | (go_simp; go_at_call 9; refine C1.mono ?_; rintro e w5 ⟨rfl, h5⟩; have H5 := Lib.hid h5; clear h5))
      all_goals (
        clear d1 d2 d3 d4 C1
        cases hM : mayV f with
        | true => as_aux_lemma =>
          obtain rfl : E = 0 := by rw [← hE]; simp [sendE, hM]
          have HM := Lib.hid hM
          clear hM hE
          by_cases hK : K = 1
          · subst hK
            have HQ := Lib.hid (show Good (S ++ [s]) (sendL 4096 L s f) (sendT T s f) ∧ (sendL 4096 L s f).length + (sendT T s f).length ≤ 2 * (k + 1) ∧ LateOk (sendT T s f) from ⟨HG.out.1.send _ s f HM.out, by have := send_len1 4096 L T s f; have := HG.out.2.1; clear hwk; omega, HG.out.2.2.send s f⟩)
            have hl1 := HSN.out
            have c7 := (H5.out.below.cell (p := ⟨ba, off + k * 5 + 1, none⟩) HBA.out).trans HC1.out
            have HF := Lib.hid (H5.out.later ((Below.refl _ w5).alloc (Nat.le_refl _) (.cells #[.string s] 9)))
            have hbs := HF.out.below.size
            go_wp2_with (at_builtin; go_loud (
              (refine wpList_append_own_at _ rfl _ _ 29 rfl w.heap.size 9 i0 (.string ⟨#[]⟩) 1 16 Try.underlying29 hi0 hz0 hz1 hz2 rfl (by decide) _ _ _ rfl HF.out.row ⟨w5.heap.size, 0, none⟩ 1 1 [.string s] rfl rfl (cell_one_new w5 _ _) (by simp [Value.oneCell']) (by have := HK.out.2; clear hwk; unfold maxLen; omega) (by have := HK.out.2; clear hwk; omega) hbs ?_)
              intro x6 w6 hown6 hgrow6 _ hat6
              have H6 := Lib.hid (show Ph w b (k + 1) (sendL 4096 L s f) (sendT T s f) (S ++ [s]) x6 w6 from ⟨HF.out.app hown6 hgrow6 hat6, HQ.out⟩)
              obtain ⟨a6, cap6, rfl⟩ := row_shape hown6
              have c9 := (H6.out.1.below.cell (p := ⟨ba, off + k * 5, none⟩) HBA.out).trans HC0.out
              clear hown6 hgrow6 hat6 HQ HF H5))
            clear c7 hbs hl1

            have CS := H6.out.1.step (by decide) (by have := H6.out.2.2.1; have := HK.out.2; clear hwk; omega) H6.out.2.2.2
            have HQ := Lib.hid H6.out.2
            go_wp2_with fail
            refine CS.mono ?_
            rintro e w9 ⟨rfl, h9⟩
            have H9 := Lib.hid (show Ph w b (k + 1) (stepL 4096 (sendL 4096 L s f) (sendT T s f)) (leftT (sendT T s f)) (S ++ [s]) (.slice a6 (S.length + 1) cap6) w9 from ⟨h9, HQ.out.1.step _, Nat.le_trans (step_len1 _ _ _) HQ.out.2.1, HQ.out.2.2.left⟩)
            clear CS h9 HQ
            go_wp2
            go_roundw
            case rel => exact ⟨k + 1, _, _, _, HK.out.1, HK.out.2, (by first | exact num_up hwk | rfl), H9.out, by rw [List.length_append]; exact Nat.succ_le_succ HSN.out, HSS.out⟩
            case measure => first | exact meas_v HK.out.2 hwk rfl rfl | exact meas_u HK.out.2 rfl rfl
          · have hKb : (K == 1) = false := beq_eq_false_iff_ne.2 hK
            have HQ := Lib.hid (show Good (S ++ [s]) (sendL 4096 L s f) (sendT T s f) ∧ (sendL 4096 L s f).length + (sendT T s f).length ≤ 2 * (k + 1) ∧ LateOk (sendT T s f) from ⟨HG.out.1.send _ s f HM.out, by have := send_len1 4096 L T s f; have := HG.out.2.1; clear hwk; omega, HG.out.2.2.send s f⟩)
            have hl1 := HSN.out
            have c7 := (H5.out.below.cell (p := ⟨ba, off + k * 5 + 1, none⟩) HBA.out).trans HC1.out
            have HF := Lib.hid (H5.out.later ((Below.refl _ w5).alloc (Nat.le_refl _) (.cells #[.string s] 9)))
            have hbs := HF.out.below.size
            go_wp2_with (at_builtin; go_loud (
              (refine wpList_append_own_at _ rfl _ _ 29 rfl w.heap.size 9 i0 (.string ⟨#[]⟩) 1 16 Try.underlying29 hi0 hz0 hz1 hz2 rfl (by decide) _ _ _ rfl HF.out.row ⟨w5.heap.size, 0, none⟩ 1 1 [.string s] rfl rfl (cell_one_new w5 _ _) (by simp [Value.oneCell']) (by have := HK.out.2; clear hwk; unfold maxLen; omega) (by have := HK.out.2; clear hwk; omega) hbs ?_)
              intro x6 w6 hown6 hgrow6 _ hat6
              have H6 := Lib.hid (show Ph w b (k + 1) (sendL 4096 L s f) (sendT T s f) (S ++ [s]) x6 w6 from ⟨HF.out.app hown6 hgrow6 hat6, HQ.out⟩)
              obtain ⟨a6, cap6, rfl⟩ := row_shape hown6
              have c9 := (H6.out.1.below.cell (p := ⟨ba, off + k * 5, none⟩) HBA.out).trans HC0.out
              clear hown6 hgrow6 hat6 HQ HF H5))
            clear c7 hbs hl1

            go_wp2
            go_roundw
            case rel => exact ⟨k + 1, _, _, _, HK.out.1, HK.out.2, (by first | exact num_up hwk | rfl), H6.out, by rw [List.length_append]; exact Nat.succ_le_succ HSN.out, HSS.out⟩
            case measure => first | exact meas_v HK.out.2 hwk rfl rfl | exact meas_u HK.out.2 rfl rfl
        | false => as_aux_lemma =>
          obtain rfl : E = 180 := by rw [← hE]; simp [sendE, hM]
          have HM := Lib.hid hM
          clear hM hE
          by_cases hK : K = 1
          · subst hK
            have H6 := Lib.hid (show Ph w b (k + 1) (sendL 4096 L s f) (sendT T s f) S u5 w5 from ⟨H5.out, HG.out.1.no _ s f HM.out, by have := send_len1 4096 L T s f; have := HG.out.2.1; clear hwk; omega, HG.out.2.2.send s f⟩)
            clear H5
            have c9 := (H6.out.1.below.cell (p := ⟨ba, off + k * 5, none⟩) HBA.out).trans HC0.out

            have CS := H6.out.1.step (by decide) (by have := H6.out.2.2.1; have := HK.out.2; clear hwk; omega) H6.out.2.2.2
            have HQ := Lib.hid H6.out.2
            go_wp2_with fail
            refine CS.mono ?_
            rintro e w9 ⟨rfl, h9⟩
            have H9 := Lib.hid (show Ph w b (k + 1) (stepL 4096 (sendL 4096 L s f) (sendT T s f)) (leftT (sendT T s f)) S u5 w9 from ⟨h9, HQ.out.1.step _, Nat.le_trans (step_len1 _ _ _) HQ.out.2.1, HQ.out.2.2.left⟩)
            clear CS h9 HQ
            go_wp2
            go_roundw
            case rel => exact ⟨k + 1, _, _, _, HK.out.1, HK.out.2, (by first | exact num_up hwk | rfl), H9.out, Nat.le_succ_of_le HSN.out, fun s' hs' => HSS.out s' (List.mem_append_left _ hs')⟩
            case measure => first | exact meas_v HK.out.2 hwk rfl rfl | exact meas_u HK.out.2 rfl rfl
          · have hKb : (K == 1) = false := beq_eq_false_iff_ne.2 hK
            have H6 := Lib.hid (show Ph w b (k + 1) (sendL 4096 L s f) (sendT T s f) S u5 w5 from ⟨H5.out, HG.out.1.no _ s f HM.out, by have := send_len1 4096 L T s f; have := HG.out.2.1; clear hwk; omega, HG.out.2.2.send s f⟩)
            clear H5
            have c9 := (H6.out.1.below.cell (p := ⟨ba, off + k * 5, none⟩) HBA.out).trans HC0.out

            go_wp2
            go_roundw
            case rel => exact ⟨k + 1, _, _, _, HK.out.1, HK.out.2, (by first | exact num_up hwk | rfl), H6.out, Nat.le_succ_of_le HSN.out, fun s' hs' => HSS.out s' (List.mem_append_left _ hs')⟩
            case measure => first | exact meas_v HK.out.2 hwk rfl rfl | exact meas_u HK.out.2 rfl rfl)
    · have HO := Lib.hid (show Q w b S u5 0 L T wr from ⟨hor, hgood, by omega, hlate, Due.of hlate, fun h => absurd h (by decide)⟩)
      have hcase : ¬ ((k : Int) < (l.length : Int)) ∨ ((k : Int) < (l.length : Int) ∧ ¬ (k : Int) < 100) := by omega
      have HSS := Lib.hid (show S.length ≤ 100 ∧ ∀ s ∈ S, s.size ≤ 140737488351232 from ⟨Nat.le_trans hSn hk2, hSs⟩)
      clear hlt hk1 hk2 hor hgood hlen hlate hSn hSs
      rcases hcase with hge | ⟨hlt1, hge⟩
      all_goals (as_aux_lemma =>
        obtain ⟨ax, cx, rfl⟩ := row_shape HO.out.1.row
        obtain ⟨N, hN⟩ : ∃ N, S.length = N := ⟨_, rfl⟩
        have HN := Lib.hid hN
        rw [hN] at HO
        go_wp2_with fail
        clear hN
        go_loopw [7] (fun st wx => ∃ (j : Nat) (L : List ByteArray) (T : List Lte), j ≤ 10 ∧ st = .int .i64 j ∧ Q w b S (.slice ax N cx) j L T wx) (fun st _ => 10 - (intOf st).toNat)
        case atStart => exact ⟨0, _, _, Nat.zero_le _, rfl, HO.out⟩
        case round =>
          clear HO
          obtain ⟨j, L, T, hj, rfl, hq1, hq2, hq3, hq4, hq5, hq6⟩ := hrel
          by_cases hj10 : j < 10
          · have hji : (j : Int) < 10 := by omega
            have HJ := Lib.hid hj10
            have hwj := wrap_up hj10 (by decide)
            have HQ := Lib.hid (show LateOk T ∧ Due T j ∧ T.length ≤ 200 ∧ ∀ q ∈ T, Near1 S q.1 from ⟨hq4, hq5, by clear hwj; omega, hq2.2⟩)
            have H3 := Lib.hid (show Ord w 4096 b L T S (.slice ax N cx) _ ∧ ∀ x ∈ L, Near1 S x from ⟨hq1, hq2.1⟩)
            have HL2 := Lib.hid (show 0 + L.length ≤ 200 by clear hwj; omega)
            clear hq1 hq2 hq3 hq4 hq5 hq6 hj hj10
            go_wp2_with fail
            go_loopw [8] (fun ix wy => ∃ (m : Nat) (L' : List ByteArray), ix = .int .i64 m ∧ m + L'.length ≤ 200 ∧ Ord w 4096 b L' T S (.slice ax N cx) wy ∧ ∀ x ∈ L', Near1 S x) (fun ix _ => 500 - (intOf ix).toNat)
            case atStart => exact ⟨0, L, rfl, HL2.out, H3.out⟩
            case round =>
              clear H3 HL2
              obtain ⟨m, L', rfl, hml, ho, hn⟩ := hrel
              have hm5 : (m : Int) < 500 := by clear hwj; omega
              have CT := ho.take (by clear hwj; omega)
              cases L' with
              | nil => as_aux_lemma =>
                change Calls _ _ _ _ (fun e w' => e = .returned (.tuple #[.string ⟨#[]⟩, .bool false]) ∧ Ord w 4096 b [] T S (.slice ax N cx) w') at CT
                clear ho hn hml
                go_wp2_with fail
                refine CT.mono ?_
                rintro e w5 ⟨rfl, h5⟩
                have CS := h5.step (by decide) (by have := HQ.out.2.2.1; clear hwj; omega) HQ.out.1
                clear CT h5
                go_wp2_with fail
                refine CS.mono ?_
                rintro e w6 ⟨rfl, h6⟩
                have H6 := Lib.hid (show Q w b S (.slice ax N cx) (j + 1) (stepL 4096 [] T) (leftT T) w6 from ⟨h6, ⟨near_step (fun x hx => by cases hx) HQ.out.2.2.2, fun q hq => by
                    obtain ⟨p, hp, -, rfl⟩ := left_mem hq
                    exact HQ.out.2.2.2 p hp⟩, Nat.le_trans (step_len1 _ _ _) (by rw [List.length_nil, Nat.zero_add]; exact HQ.out.2.2.1), HQ.out.1.left, HQ.out.2.1.left HQ.out.1, fun h9 => by
                    rw [HQ.out.2.1.none HQ.out.1 (by clear hwj; omega)]
                    rfl⟩)
                clear CS h6
                go_wp2
                go_roundw
                case rel => exact ⟨j + 1, _, _, HJ.out, (by first | exact num_up hwj | rfl), H6.out⟩
                case measure => first | exact meas_v HJ.out hwj rfl rfl | exact meas_u HJ.out rfl rfl
              | cons X L2 => as_aux_lemma =>
                change Calls _ _ _ _ (fun e w' => e = .returned (.tuple #[.string X, .bool true]) ∧ Ord w 4096 b L2 T S (.slice ax N cx) w') at CT
                obtain ⟨sx, hsx1, hsx2⟩ := hn X List.mem_cons_self
                have HX := Lib.hid (show ∃ i, ∃ h : i < S.length, nearB X S[i] = true from by
                  obtain ⟨i, hi, e⟩ := List.mem_iff_getElem.1 hsx1
                  exact ⟨i, hi, by rw [e]; exact hsx2⟩)
                have hXs : X.size ≤ 140737488351232 := by rw [near_size hsx2]; exact HSS.out.2 sx hsx1
                have HN2 := Lib.hid (show ∀ x ∈ L2, Near1 S x from fun x hx => hn x (List.mem_cons_of_mem _ hx))
                have HM := Lib.hid (show m + 1 + L2.length ≤ 200 by rw [List.length_cons] at hml; clear hwj; omega)
                have hm500 : m < 500 := by clear hwj; omega
                have hwm := wrap_up hm500 (by decide)
                have CNR := fun s w => near_any X s hXs w
                have HM5 := Lib.hid hm500
                clear ho hn hml hsx1 hsx2 hXs hm500
                go_wp2_with fail
                refine CT.mono ?_
                rintro e w5 ⟨rfl, h5⟩
                have H5 := Lib.hid h5
                clear CT h5
                go_wp2_with fail
                go_loopw [11, 12] (fun fv iv wz => ∃ (fb : Bool) (i : Nat), i ≤ N ∧ fv = .bool fb ∧ iv = .int .i64 i ∧ (fb = true ∨ ∀ i' (h : i' < S.length), i' < i → nearB X S[i'] = false) ∧ Ord w 4096 b L2 T S (.slice ax N cx) wz) (fun _ iv _ => N - (intOf iv).toNat)
                case atStart => exact ⟨false, 0, Nat.zero_le _, rfl, rfl, .inr (fun i' _ h => absurd h (Nat.not_lt_zero _)), H5.out⟩
                case round =>
                  clear H5
                  obtain ⟨fb, i, hi, rfl, rfl, hfb, ho⟩ := hrel
                  cases fb with
                  | true =>
                    have H7 := Lib.hid ho
                    clear ho hfb
                    by_cases hiN : (i : Int) < (N : Int)
                    · go_wp2
                      go_roundw
                      case rel => exact ⟨m + 1, L2, (by first | exact num_up hwm | rfl), HM.out, H7.out, HN2.out⟩
                      case measure => first | exact meas_v HM5.out hwm rfl rfl | exact meas_u HM5.out rfl rfl
                    · go_wp2
                      go_roundw
                      case rel => exact ⟨m + 1, L2, (by first | exact num_up hwm | rfl), HM.out, H7.out, HN2.out⟩
                      case measure => first | exact meas_v HM5.out hwm rfl rfl | exact meas_u HM5.out rfl rfl
                  | false =>
                    have hall := hfb.resolve_left (by decide)
                    by_cases hiN : i < N
                    · have hii : (i : Int) < (N : Int) := by clear hwj hwm; omega
                      have hiS : i < S.length := by rw [HN.out]; exact hiN
                      have hwi := wrap_up hiN (by have := HSS.out.1; have := HN.out; clear hwj hwm; omega)
                      obtain ⟨g, c, he, hc⟩ := ho.at i hiS
                      cases he
                      obtain ⟨Y, hY⟩ : ∃ Y, S[i] = Y := ⟨_, rfl⟩
                      rw [hY] at hc
                      have CY := CNR Y
                      obtain ⟨nb, hnb⟩ : ∃ nb, nearB X Y = nb := ⟨_, rfl⟩
                      rw [hnb] at CY
                      have HAL := Lib.hid (show nb = true ∨ ∀ i' (h : i' < S.length), i' < i + 1 → nearB X S[i'] = false from by
                        cases nb with
                        | true => exact .inl rfl
                        | false =>
                          refine .inr fun i' h' hlt => ?_
                          by_cases e : i' = i
                          · subst e
                            rw [hY]; exact hnb
                          · exact hall i' h' (by clear hwj hwm hwi; omega))
                      have HIN := Lib.hid hiN
                      have H7 := Lib.hid ho
                      clear ho hfb hall hi hiN hnb hY
                      go_wp2_with fail
                      refine (CY _).mono ?_
                      rintro e w8 ⟨rfl, hB8⟩
                      have H8 := Lib.hid (H7.out.later hB8)
                      clear hB8 CY
                      go_wp2
                      go_roundw
                      case rel => exact ⟨nb, i + 1, HIN.out, rfl, (by first | exact num_up hwi | rfl), HAL.out, H8.out⟩
                      case measure => first | exact meas_v HIN.out hwi rfl rfl | exact meas_u HIN.out rfl rfl
                    · exfalso
                      obtain ⟨i', h', e⟩ := HX.out
                      rw [hall i' h' (by rw [HN.out] at h'; clear hwj hwm; omega)] at e
                      cases e
          · obtain rfl : j = 10 := by omega
            have hT0 : T = [] := hq5.none hq4 (by decide)
            have hL0 : L = [] := hq6 (by decide)
            subst hT0 hL0
            have hji : ¬ ((10 : Nat) : Int) < 10 := by decide
            have CW := hq1.waits
            have HB := Lib.hid hq1.below
            clear hq1 hq2 hq3 hq4 hq5 hq6 hj hj10
            go_wp2_with fail
            refine CW.mono ?_
            rintro e w3 ⟨rfl, h3⟩
            have HB3 := Lib.hid h3.below
            clear CW h3
            go_wp2_with fail
            refine (fixed_any _).mono ?_
            rintro e w7 ⟨rfl, hB7⟩
            have HB7 := Lib.hid (HB3.out.trans (hB7.mono HB3.out.size))
            clear hB7
            go_wp2
            go_ret
            exact ⟨rfl, HB7.out⟩)
set_option maxRecDepth 100000 in
/-- WHAT THE WALK GIVES, for every argument that can be read. -/
theorem contract (H : Type) (enc : TypeId × Value → H) (W : World) (base : Nat) (args : Array Value) (ds gs : List (DataW H)) (before : List MemPlace)
    (hval : ∀ (j : Nat) t v, Try.f5.params[j]? = some t → args[j]? = some v → Value.okWide Try.prog W .any base t v)
    (hW : DataW.Whole enc Try.prog Try.f5.params.toList Rows.linkSentSpec.vars false W args.toList ds gs before)
    (hreach : (DataW.weightsEach Try.prog (Try.f5.params.toList) ds).all (· ≤ reachBytes) = true) :
    Calls Try.prog 5 args W fun e W' => ∃ v, e = .returned v ∧ Rows.linkSentSpec.post enc Try.prog Try.f5 false true false false W args v W' := by
  have hW' := hW
  obtain ⟨p, q, hA0, hV, rfl, hfz, hnd⟩ := hW
  have hA : DataW.TrodAll enc Try.prog W 0 (fun _ => true) true Try.f5.params.toList args.toList ds p := hA0
  rw [Try.params5] at hA hval hreach
  obtain ⟨v0, d0, rfl, rfl, h0⟩ := trodAll_one hA
  obtain ⟨rfl, rfl⟩ := trodVars_none hV
  have lt0 : ∀ x ∈ p, x.block < W.heap.size := fun x hx => hW'.lt x (by simp [hx])
  obtain ⟨l0, k0, r0⟩ := ops_open (hval 0 22 v0 rfl rfl) h0 lt0 hreach (j := 0) rfl rfl
  clear hA0 hval
  simp only [List.append_nil] at hW'
  refine (walk v0 l0 W k0 r0).mono fun e W' ⟨he, hB⟩ => ?_
  subst he
  exact ⟨_, rfl, post_of_below (pa := p) (pv := []) hW' (fun _ _ _ => trodAll_mk1 (shut_bool Try.underlying4 _)) (fun sp hsp => trodAll_mk1 (WideElems.Trod_stays laidOut (by kernel_rfl) (of_decide_eq_true (by kernel_rfl)) h0 (fun x hx => hB.same (lt0 x hx)) (fun x hx => hsp x (by simp [hx])))) (fun _ _ => rfl) (by simp) hB (ok_one (by kernel_rfl) rfl (okWide_bool_mk Try.underlying4 _))⟩

theorem reads (os : Os) {H : Type} (enc : TypeId × Value → H) : ∃ places, DataW.whole enc Try.prog ((laidWorld os).forCall (fun _ _ => 0) ⟨#[], #[.slice none 0 0], []⟩).memory Try.f5.params.toList Rows.linkSentSpec.vars false (#[.slice none 0 0] : Array Value).toList 8 = some ([.nil], [], places) :=
  ⟨[], by kernel_rfl⟩

set_option maxRecDepth 100000 in
theorem lifted (os : Os) (started : os.Started) (H : Type) (enc : TypeId × Value → H) (F : Stop.Interp) :
    ReturnsInHanded {} Try.checked os 5 .any ((OpenSpec.ofChange Rows.linkSentSpec).preRow enc Try.prog Try.f5 Rows.linkSentRow.domain false Rows.linkSentRow.laid) (((OpenSpec.ofChange Rows.linkSentSpec).at F).post enc Try.prog Try.f5 false true false false) := by
  obtain ⟨places, hx⟩ := reads os enc
  refine returnsInHanded_of_row (C := Try.checked) (s := OpenSpec.ofChange Rows.linkSentSpec) own started (by kernel_rfl) Try.func5
    (witness_row_at (enc := enc) (C := Try.checked) false (laidWorld os) #[.slice none 0 0] rfl (by kernel_rfl) (by kernel_rfl) (by kernel_rfl)
      (OpenSpec.preRow_of_cond 8 hx (by kernel_rfl) (fun k hk => by cases hk) (by kernel_rfl) (laid_met os _))) ?_
  intro W base args ds gs before hval hW _ hcond hreach hL _ _
  obtain ⟨p, q, hA0, hV, hpq, hfz, hnd⟩ := id hW
  obtain ⟨rfl, _⟩ := trodVars_none hV
  rw [List.append_nil] at hreach
  exact contract H enc W base args ds [] before hval hW hreach

theorem said : Rows.LinkSentSaid :=
  OpenClaim.holds_of_cond 5 Try.f5 rfl rfl rfl rfl rfl rfl rfl ⟨rfl, rfl, rfl, rfl, rfl⟩ rfl rfl rfl rfl rfl (by kernel_rfl) Try.func5 (by kernel_rfl)
    (of_decide_eq_true (by kernel_rfl)) (by unfold Func.isWrapper; first | (rw [if_pos (by decide +kernel)]; kernel_rfl) | (rw [if_neg (by decide +kernel)]; exact ⟨rfl, rfl⟩))
    (fun os started H enc _ F => by rw [OpenClaim.pre_eq_preRow]; exact lifted os started H enc F)



end Go.Proofs.Ytiiplchakanomaa.lsent

