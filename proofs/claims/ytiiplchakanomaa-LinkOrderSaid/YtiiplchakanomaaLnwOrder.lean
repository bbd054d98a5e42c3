/-
  Messages that go are taken in their order, each once, whatever time passes; those that are dropped never (of at most 200 messages): for every two lists.
  Conditions: none besides the row's own.
-/
import Derived.Test.YtiiplchakanomaaLnkOrd
import Derived.Test.YtiiplchakanomaaLnkBl
import Derived.Test.YtiiplchakanomaaKitM
import Derived.Deep.QuietTactic
import Derived.Deep.RegionLaw
namespace Go.Proofs.Ytiiplchakanomaa.lorder
open Go.Proofs.Ytiiplchakanomaa
open Go.ChangeShapes Go.WideShapes Go.ChangeAt Go.RowKit Go

set_option maxRecDepth 100000 in
set_option maxHeartbeats 16000000 in
theorem walk (v0 : Value) (l : List ByteArray) (v1 : Value) (dl : List Bool) (w : World) (hO : StrsAt w v0 l) (hr0 : l.length ≤ 140737488351232 ∧ ∀ s ∈ l, s.size ≤ 140737488351232) (hD : BoolsAt w v1 dl) (_hdn : dl.length ≤ 9223372036854775807) :
    Calls Try.prog 4 #[v0, v1] w fun e w' => e = .returned (.bool true) ∧ Below w.heap.size w w' := by
  obtain ⟨i0, hi0, hz0, hz1, hz2⟩ := info_parts infoStr
  obtain ⟨hln, hls⟩ := hr0
  obtain ⟨aa, capa, rfl, ha⟩ := hO
  obtain ⟨ad, capd, rfl, had⟩ := hD
  have HA := Lib.hid ha
  have HD := Lib.hid had
  have HLS := Lib.hid hls
  have HLL := Lib.hid hln
  have C0 := lg_new (w0 := w) 4096 (by decide) (by decide) (Below.refl _ w)
  rw [show ((4096 : Nat) : Int) = 4096 from rfl] at C0
  obtain ⟨b, hb⟩ : ∃ b, w.heap.size = b := ⟨_, rfl⟩
  rw [hb] at C0
  clear ha had hls hln
  go_enter Try.func4, Try.ntmps4
  go_wp2_with fail
  refine C0.mono ?_
  rintro e w1 ⟨rfl, h1, -⟩
  obtain ⟨w2, hw2⟩ : ∃ w2, w1.alloc (.cells #[] 9) = w2 := ⟨_, rfl⟩
  have H2 := Lib.hid (Ord.start h1 hw2)
  clear C0 h1 hb
  go_wp2_with fail
  go_loopw [7, 8] (fun x i wr => ∃ (k : Nat) (W : List ByteArray), k ≤ l.length ∧ k ≤ 200 ∧ i = .int .i64 k ∧ W.length ≤ k ∧ Ord w 4096 b W [] W x wr) (fun _ i _ => 200 - (intOf i).toNat)
  case atStart => exact ⟨0, [], Nat.zero_le _, Nat.zero_le _, rfl, Nat.le_refl _, H2.out⟩
  case round =>
    clear H2
    obtain ⟨k, W, hk1, hk2, rfl, hWl, hor⟩ := hrel
    by_cases hlt : k < l.length ∧ k < 200
    · obtain ⟨t1, t2⟩ := hlt
      have HK := Lib.hid (And.intro t1 t2)
      have hwk := wrap_up t2 (by decide)
      obtain ⟨ba, off, rfl, hba, hcells⟩ := HA.out (by intro e; rw [e] at t1; simp at t1)
      have c0 := hcells k t1
      have z0 := HLS.out _ (List.getElem_mem t1)
      obtain ⟨s, hs⟩ : ∃ s, l[k] = s := ⟨_, rfl⟩
      rw [hs] at c0 z0
      have HCS := Lib.hid c0
      have HBA := Lib.hid hba
      have HZ := Lib.hid z0
      have HWL := Lib.hid hWl
      obtain ⟨wz, u1, u2, w3, ⟨y1, y2, y3, y4⟩, ⟨p1, p2, p3⟩, ⟨r1, r2, r3⟩, hq3, hB3⟩ := fte_zero wr
      obtain ⟨q, hq⟩ : ∃ q, wr.heap.size = q := ⟨_, rfl⟩
      rw [hq] at y2 y3 y4 p1 p2 p3 r1 r2 r3 hq3
      have HQ3 := Lib.hid hq3
      have H3 := Lib.hid (hor.later hB3)
      have HQX := Lib.hid (show u7.ownBlock ≠ some q from fun e => by have := (hor.row.lt q e).2; rw [hq] at this; exact Nat.lt_irrefl _ this)
      have c3 : w3.cell? ⟨ba, off + k, none⟩ = some (.string s) := (H3.out.below.cell (p := ⟨ba, off + k, none⟩) hba).trans c0
      have f0 : w3.frozen? ⟨q, 0, none⟩ = false := by have h := HQ3.out; simp [World.frozen?, h]
      have g0 : w3.cell? ⟨q, 0, none⟩ = some (.int .i64 0) := by have h := HQ3.out; simp [World.cell?, h]
      have e1' : (k : Int) < (l.length : Int) := by clear hwk; omega
      have e2' : (k : Int) < 200 := by clear hwk; omega
      have HQG := Lib.hid (show w.heap.size ≤ q ∧ ∃ G, LG w 4096 W [] b G w3 ∧ ¬ G q ∧ w3.ownsRow w.heap.size 9 1 u7 W.length (strVals W) ∧ ∀ k, u7.ownBlock = some k → ¬ G k from by
        obtain ⟨G, g1, g2, g3⟩ := hor
        refine ⟨by rw [← hq]; exact g1.below.size, G, g1.later hB3, fun hg => ?_, owns_keep g2 (fun k hk => hB3.block k (g2.lt k hk).2), g3⟩
        have := g1.lt q hg
        rw [hq] at this
        exact Nat.lt_irrefl _ this)
      clear hcells hk1 hk2 t1 t2 hB3 z0 hs hor hba hWl hq3
      by_cases hd : k < dl.length
      · have hdi : (k : Int) < (dl.length : Int) := by clear hwk; omega
        obtain ⟨bd, od, rfl, hbd, hcd⟩ := HD.out (by intro e; rw [e] at hd; simp at hd)
        have cd := (H3.out.below.cell (p := ⟨bd, od + k, none⟩) hbd).trans (hcd k hd)
        cases hdk : dl[k] with
        | true =>
          rw [hdk] at cd
          clear hcd
          as_aux_lemma =>
            have HLN := Lib.hid (show W.length ≤ k + 1 from Nat.le_succ_of_le HWL.out)
            have HSV := Lib.hid (show sendL 4096 W s ⟨1, 0, 0⟩ = W from rfl)
            obtain ⟨w4, hw4⟩ : ∃ w4, w3.setCell ⟨q, 0, none⟩ (.int .i64 1) = w4 := ⟨_, rfl⟩
            have hq4 : w4.heap[q]? = some (.cells #[.int .i64 1, .int .i64 0, .int .u8 0] 34 (0, 0)) := by rw [← hw4, heap_set HQ3.out]; rfl
            have H4 := Lib.hid (show Ord w 4096 b W [] W u7 w4 from Ord.poke HQG.out HQX.out hw4)
            have e0 := (H4.out.below.cell (p := ⟨ba, off + k, none⟩) HBA.out).trans HCS.out
            have e1 : w4.cell? ⟨q, 0, none⟩ = some (.int .i64 1) := by simp [World.cell?, hq4]
            have e2 : w4.cell? ⟨q, 1, none⟩ = some (.int .i64 0) := by simp [World.cell?, hq4]
            have e3 : w4.cell? ⟨q, 2, none⟩ = some (.int .u8 0) := by simp [World.cell?, hq4]
            clear hq4

            have HY := Lib.hid (H4.out.later ((Below.refl _ _).drew))
            have C1 := HY.out.send (by decide) (by simp) s HZ.out ⟨1, 0, 0⟩ (by decide)
            rw [show sendE ⟨1, 0, 0⟩ = 0 from by decide +kernel, show sendT [] s ⟨1, 0, 0⟩ = [] from rfl] at C1
            rw [HSV.out] at C1
            unfold fteV at C1
            simp only at C1
            rw [show (((0 : UInt8).toNat : Nat) : Int) = 0 from rfl] at C1
            go_wp2_with fail
            go_region_law (first
              | (go_simp; go_at_call 9; refine C1.mono ?_; rintro e w5 ⟨rfl, h5⟩; have H5 := Lib.hid h5; clear h5))
            all_goals (
              clear e0 e1 e2 e3 C1 HY
              have C2 := H5.out.step (by decide) (by simp) (fun q hq => by cases hq)
              rw [show stepL 4096 W [] = W from rfl, show leftT [] = [] from rfl] at C2
              go_wp2_with fail
              refine C2.mono ?_
              rintro e w6 ⟨rfl, h6⟩
              have H6 := Lib.hid h6
              clear C2 h6 H5
              go_wp2_with fail
              go_roundw
              case rel => exact ⟨k + 1, W, HK.out.1, HK.out.2, (by first | exact num_up hwk | rfl), HLN.out, H6.out⟩
              case measure => first | exact meas_v HK.out.2 hwk rfl rfl | exact meas_u HK.out.2 rfl rfl)
        | false =>
          rw [hdk] at cd
          clear hcd
          as_aux_lemma =>
            have HLN := Lib.hid (show (W ++ [s]).length ≤ k + 1 by rw [List.length_append]; exact Nat.succ_le_succ HWL.out)
            have HSV := Lib.hid (show sendL 4096 W s ⟨0, 0, 0⟩ = W ++ [s] by
              have h1 : W.length < 4096 := by have := HWL.out; have := HK.out.2; clear hwk; omega
              show comesL 4096 W s = _
              rw [comesL, if_pos h1])
            have hl1 := HWL.out
            have HF := Lib.hid (H3.out.later ((Below.refl _ w3).alloc (Nat.le_refl _) (.cells #[.string s] 9)))
            have hbs := HF.out.below.size
            go_wp2_with (at_builtin; go_loud (
              (refine wpList_append_own_at _ rfl _ _ 29 rfl w.heap.size 9 i0 (.string ⟨#[]⟩) 1 16 Try.underlying29 hi0 hz0 hz1 hz2 rfl (by decide) _ _ _ rfl HF.out.row ⟨w3.heap.size, 0, none⟩ 1 1 [.string s] rfl rfl (cell_one_new w3 _ _) (by simp [Value.oneCell']) (by have := HK.out.2; clear hwk; unfold maxLen; omega) (by have := HK.out.2; clear hwk; omega) hbs ?_)
              intro x4 w4 hown4 hgrow4 _ hat4
              have H4 := Lib.hid (HF.out.app hown4 hgrow4 hat4)
              have hsh := row_shape hown4
              have hq4 := (hgrow4.block q (Nat.lt_of_lt_of_le (lt_of_heap HQ3.out) (by simp)) (fun e => HQX.out e.symm)).trans (heap_alloc_old HQ3.out (.cells #[.string s] 9))
              obtain ⟨a4, cap4, rfl⟩ := hsh
              clear hown4 hgrow4 hat4))
            have e0 := (H4.out.below.cell (p := ⟨ba, off + k, none⟩) HBA.out).trans HCS.out
            have e1 : w4.cell? ⟨q, 0, none⟩ = some (.int .i64 0) := by simp [World.cell?, hq4]
            have e2 : w4.cell? ⟨q, 1, none⟩ = some (.int .i64 0) := by simp [World.cell?, hq4]
            have e3 : w4.cell? ⟨q, 2, none⟩ = some (.int .u8 0) := by simp [World.cell?, hq4]
            clear hq4 HF hbs

            have HY := Lib.hid (H4.out.later ((Below.refl _ _).drew))
            have C1 := HY.out.send (by decide) (by simp) s HZ.out ⟨0, 0, 0⟩ (by decide)
            rw [show sendE ⟨0, 0, 0⟩ = 0 from by decide +kernel, show sendT [] s ⟨0, 0, 0⟩ = [] from rfl] at C1
            rw [HSV.out] at C1
            unfold fteV at C1
            simp only at C1
            rw [show (((0 : UInt8).toNat : Nat) : Int) = 0 from rfl] at C1
            go_wp2_with fail
            go_region_law (first
              | (go_simp; go_at_call 9; refine C1.mono ?_; rintro e w5 ⟨rfl, h5⟩; have H5 := Lib.hid h5; clear h5))
            all_goals (
              clear e0 e1 e2 e3 C1 HY
              have C2 := H5.out.step (by decide) (by simp) (fun q hq => by cases hq)
              rw [show stepL 4096 (W ++ [s]) [] = (W ++ [s]) from rfl, show leftT [] = [] from rfl] at C2
              go_wp2_with fail
              refine C2.mono ?_
              rintro e w6 ⟨rfl, h6⟩
              have H6 := Lib.hid h6
              clear C2 h6 H5
              go_wp2_with fail
              go_roundw
              case rel => exact ⟨k + 1, (W ++ [s]), HK.out.1, HK.out.2, (by first | exact num_up hwk | rfl), HLN.out, H6.out⟩
              case measure => first | exact meas_v HK.out.2 hwk rfl rfl | exact meas_u HK.out.2 rfl rfl)
      · have hdi : ¬ (k : Int) < (dl.length : Int) := by clear hwk; omega
        as_aux_lemma =>
          have HLN := Lib.hid (show (W ++ [s]).length ≤ k + 1 by rw [List.length_append]; exact Nat.succ_le_succ HWL.out)
          have HSV := Lib.hid (show sendL 4096 W s ⟨0, 0, 0⟩ = W ++ [s] by
            have h1 : W.length < 4096 := by have := HWL.out; have := HK.out.2; clear hwk; omega
            show comesL 4096 W s = _
            rw [comesL, if_pos h1])
          have hl1 := HWL.out
          have HF := Lib.hid (H3.out.later ((Below.refl _ w3).alloc (Nat.le_refl _) (.cells #[.string s] 9)))
          have hbs := HF.out.below.size
          go_wp2_with (at_builtin; go_loud (
            (refine wpList_append_own_at _ rfl _ _ 29 rfl w.heap.size 9 i0 (.string ⟨#[]⟩) 1 16 Try.underlying29 hi0 hz0 hz1 hz2 rfl (by decide) _ _ _ rfl HF.out.row ⟨w3.heap.size, 0, none⟩ 1 1 [.string s] rfl rfl (cell_one_new w3 _ _) (by simp [Value.oneCell']) (by have := HK.out.2; clear hwk; unfold maxLen; omega) (by have := HK.out.2; clear hwk; omega) hbs ?_)
            intro x4 w4 hown4 hgrow4 _ hat4
            have H4 := Lib.hid (HF.out.app hown4 hgrow4 hat4)
            have hsh := row_shape hown4
            have hq4 := (hgrow4.block q (Nat.lt_of_lt_of_le (lt_of_heap HQ3.out) (by simp)) (fun e => HQX.out e.symm)).trans (heap_alloc_old HQ3.out (.cells #[.string s] 9))
            obtain ⟨a4, cap4, rfl⟩ := hsh
            clear hown4 hgrow4 hat4))
          have e0 := (H4.out.below.cell (p := ⟨ba, off + k, none⟩) HBA.out).trans HCS.out
          have e1 : w4.cell? ⟨q, 0, none⟩ = some (.int .i64 0) := by simp [World.cell?, hq4]
          have e2 : w4.cell? ⟨q, 1, none⟩ = some (.int .i64 0) := by simp [World.cell?, hq4]
          have e3 : w4.cell? ⟨q, 2, none⟩ = some (.int .u8 0) := by simp [World.cell?, hq4]
          clear hq4 HF hbs

          have HY := Lib.hid (H4.out.later ((Below.refl _ _).drew))
          have C1 := HY.out.send (by decide) (by simp) s HZ.out ⟨0, 0, 0⟩ (by decide)
          rw [show sendE ⟨0, 0, 0⟩ = 0 from by decide +kernel, show sendT [] s ⟨0, 0, 0⟩ = [] from rfl] at C1
          rw [HSV.out] at C1
          unfold fteV at C1
          simp only at C1
          rw [show (((0 : UInt8).toNat : Nat) : Int) = 0 from rfl] at C1
          go_wp2_with fail
          go_region_law (first
            | (go_simp; go_at_call 9; refine C1.mono ?_; rintro e w5 ⟨rfl, h5⟩; have H5 := Lib.hid h5; clear h5))
          all_goals (
            clear e0 e1 e2 e3 C1 HY
            have C2 := H5.out.step (by decide) (by simp) (fun q hq => by cases hq)
            rw [show stepL 4096 (W ++ [s]) [] = (W ++ [s]) from rfl, show leftT [] = [] from rfl] at C2
            go_wp2_with fail
            refine C2.mono ?_
            rintro e w6 ⟨rfl, h6⟩
            have H6 := Lib.hid h6
            clear C2 h6 H5
            go_wp2_with fail
            go_roundw
            case rel => exact ⟨k + 1, (W ++ [s]), HK.out.1, HK.out.2, (by first | exact num_up hwk | rfl), HLN.out, H6.out⟩
            case measure => first | exact meas_v HK.out.2 hwk rfl rfl | exact meas_u HK.out.2 rfl rfl)
    · have HO := Lib.hid hor
      have hcase : ¬ ((k : Int) < (l.length : Int)) ∨ ((k : Int) < (l.length : Int) ∧ ¬ (k : Int) < 200) := by omega
      have HWL := Lib.hid (show W.length ≤ 200 from Nat.le_trans hWl hk2)
      clear hlt hk1 hk2 hor hWl
      rcases hcase with hge | ⟨hlt1, hge⟩
      all_goals (as_aux_lemma =>
        obtain ⟨ax, cx, rfl⟩ := row_shape HO.out.row
        obtain ⟨N, hN⟩ : ∃ N, W.length = N := ⟨_, rfl⟩
        have HN := Lib.hid hN
        rw [hN] at HO
        go_wp2_with fail
        clear hN
        go_loopw [10] (fun i wx => ∃ j : Nat, j ≤ N ∧ i = .int .i64 j ∧ Ord w 4096 b (W.drop j) [] W (.slice ax N cx) wx) (fun i _ => N - (intOf i).toNat)
        case atStart => exact ⟨0, Nat.zero_le _, rfl, HO.out⟩
        case round =>
          obtain ⟨j, hj, rfl, ho⟩ := hrel
          by_cases hjl : j < N
          · have hjW : j < W.length := by rw [HN.out]; exact hjl
            have C1 := ho.take (by rw [List.length_drop]; have := HWL.out; omega)
            obtain ⟨X, hX⟩ : ∃ X, W[j] = X := ⟨_, rfl⟩
            have hdr : W.drop j = X :: W.drop (j + 1) := by rw [← hX]; exact List.drop_eq_getElem_cons hjW
            rw [hdr] at C1
            change Calls _ _ _ _ (fun e w' => e = .returned (.tuple #[.string X, .bool true]) ∧ Ord w 4096 b (W.drop (j + 1)) [] W (.slice ax N cx) w') at C1
            have hwj := wrap_up hjl (by have := HWL.out; have := HN.out; omega)
            have hji : (j : Int) < (N : Int) := by clear hwj; omega
            have HX := Lib.hid hX
            have HJ := Lib.hid hjl
            clear ho hdr hX
            go_wp2_with fail
            refine C1.mono ?_
            rintro e w5 ⟨rfl, h5⟩
            obtain ⟨g, c, he, hc⟩ := h5.at j hjW
            rw [HX.out] at hc
            have H5 := Lib.hid h5
            cases he
            have x1 : (X.toList != X.toList) = false := by simp
            clear C1 h5
            go_wp2
            go_roundw
            case rel => exact ⟨j + 1, HJ.out, (by first | exact num_up hwj | rfl), H5.out⟩
            case measure => first | exact meas_v HJ.out hwj rfl rfl | exact meas_u HJ.out rfl rfl
          · obtain rfl : j = N := by omega
            have hji : ¬ (j : Int) < (j : Int) := by omega
            have hdn : W.drop j = [] := by rw [← HN.out]; exact List.drop_length
            rw [hdn] at ho
            have C1 := ho.take (by simp)
            change Calls _ _ _ _ (fun e w' => e = .returned (.tuple #[.string ⟨#[]⟩, .bool false]) ∧ Ord w 4096 b [] [] W (.slice ax j cx) w') at C1
            clear ho hdn
            go_wp2_with fail
            refine C1.mono ?_
            rintro e w5 ⟨rfl, h5⟩
            have HB5 := Lib.hid h5.below
            clear C1 h5
            go_wp2_with fail
            refine (fixed_any _).mono ?_
            rintro e w7 ⟨rfl, hB7⟩
            have HB7 := Lib.hid (HB5.out.trans (hB7.mono HB5.out.size))
            clear hB7
            go_wp2
            go_ret
            exact ⟨rfl, HB7.out⟩)
set_option maxRecDepth 100000 in
/-- WHAT THE WALK GIVES, for every argument that can be read. -/
theorem contract (H : Type) (enc : TypeId × Value → H) (W : World) (base : Nat) (args : Array Value) (ds gs : List (DataW H)) (before : List MemPlace)
    (hval : ∀ (j : Nat) t v, Try.f4.params[j]? = some t → args[j]? = some v → Value.okWide Try.prog W .any base t v)
    (hW : DataW.Whole enc Try.prog Try.f4.params.toList Rows.linkOrderSpec.vars false W args.toList ds gs before)
    (hreach : (DataW.weightsEach Try.prog (Try.f4.params.toList) ds).all (· ≤ reachBytes) = true) :
    Calls Try.prog 4 args W fun e W' => ∃ v, e = .returned v ∧ Rows.linkOrderSpec.post enc Try.prog Try.f4 false true false false W args v W' := by
  have hW' := hW
  obtain ⟨p, q, hA0, hV, rfl, hfz, hnd⟩ := hW
  have hA : DataW.TrodAll enc Try.prog W 0 (fun _ => true) true Try.f4.params.toList args.toList ds p := hA0
  rw [Try.params4] at hA hval hreach
  obtain ⟨v0, v1, d0, d1, p0, p1, rfl, rfl, rfl, h0, h1⟩ := trodAll_two hA
  obtain ⟨rfl, rfl⟩ := trodVars_none hV
  have lt0 : ∀ x ∈ p0, x.block < W.heap.size := fun x hx => hW'.lt x (by simp [hx])
  obtain ⟨l0, k0, r0⟩ := strs_open (hval 0 29 v0 rfl rfl) h0 lt0 hreach (j := 0) rfl rfl
  have lt1 : ∀ x ∈ p1, x.block < W.heap.size := fun x hx => hW'.lt x (by simp [hx])
  obtain ⟨l1, k1, r1⟩ := bools_open (hval 1 43 v1 rfl rfl) h1 lt1
  clear hA0 hval
  simp only [List.append_nil] at hW'
  refine (walk v0 l0 v1 l1 W k0 r0 k1 r1).mono fun e W' ⟨he, hB⟩ => ?_
  subst he
  exact ⟨_, rfl, post_of_below (pa := p0 ++ (p1)) (pv := []) hW' (fun _ _ _ => trodAll_mk1 (shut_bool Try.underlying4 _)) (fun sp hsp => trodAll_mk2 (WideElems.Trod_stays laidOut (by kernel_rfl) (of_decide_eq_true (by kernel_rfl)) h0 (fun x hx => hB.same (lt0 x hx)) (fun x hx => hsp x (by simp [hx]))) (WideElems.Trod_stays laidOut (by kernel_rfl) (of_decide_eq_true (by kernel_rfl)) h1 (fun x hx => hB.same (lt1 x hx)) (fun x hx => hsp x (by simp [hx])))) (fun _ _ => rfl) (by simp) hB (ok_one (by kernel_rfl) rfl (okWide_bool_mk Try.underlying4 _))⟩

theorem reads (os : Os) {H : Type} (enc : TypeId × Value → H) : ∃ places, DataW.whole enc Try.prog ((laidWorld os).forCall (fun _ _ => 0) ⟨#[], #[.slice none 0 0, .slice none 0 0], []⟩).memory Try.f4.params.toList Rows.linkOrderSpec.vars false (#[.slice none 0 0, .slice none 0 0] : Array Value).toList 8 = some ([.nil, .nil], [], places) :=
  ⟨[], by kernel_rfl⟩

set_option maxRecDepth 100000 in
theorem lifted (os : Os) (started : os.Started) (H : Type) (enc : TypeId × Value → H) (F : Stop.Interp) :
    ReturnsInHanded {} Try.checked os 4 .any ((OpenSpec.ofChange Rows.linkOrderSpec).preRow enc Try.prog Try.f4 Rows.linkOrderRow.domain false Rows.linkOrderRow.laid) (((OpenSpec.ofChange Rows.linkOrderSpec).at F).post enc Try.prog Try.f4 false true false false) := by
  obtain ⟨places, hx⟩ := reads os enc
  refine returnsInHanded_of_row (C := Try.checked) (s := OpenSpec.ofChange Rows.linkOrderSpec) own started (by kernel_rfl) Try.func4
    (witness_row_at (enc := enc) (C := Try.checked) false (laidWorld os) #[.slice none 0 0, .slice none 0 0] rfl (by kernel_rfl) (by kernel_rfl) (by kernel_rfl)
      (OpenSpec.preRow_of_cond 8 hx (by kernel_rfl) (fun k hk => by cases hk) (by kernel_rfl) (laid_met os _))) ?_
  intro W base args ds gs before hval hW _ hcond hreach hL _ _
  obtain ⟨p, q, hA0, hV, hpq, hfz, hnd⟩ := id hW
  obtain ⟨rfl, _⟩ := trodVars_none hV
  rw [List.append_nil] at hreach
  exact contract H enc W base args ds [] before hval hW hreach

theorem said : Rows.LinkOrderSaid :=
  OpenClaim.holds_of_cond 4 Try.f4 rfl rfl rfl rfl rfl rfl rfl ⟨rfl, rfl, rfl, rfl, rfl⟩ rfl rfl rfl rfl rfl (by kernel_rfl) Try.func4 (by kernel_rfl)
    (of_decide_eq_true (by kernel_rfl)) (by unfold Func.isWrapper; first | (rw [if_pos (by decide +kernel)]; kernel_rfl) | (rw [if_neg (by decide +kernel)]; exact ⟨rfl, rfl⟩))
    (fun os started H enc _ F => by rw [OpenClaim.pre_eq_preRow]; exact lifted os started H enc F)



end Go.Proofs.Ytiiplchakanomaa.lorder

