/-
  Whatever is sent, with whatever fates, and taken, as time passes, each answer of a link is as the document says (of at most 200 calls): for every room and every list of calls.
  Conditions: none besides the row's own.
-/
import Derived.Test.YtiiplchakanomaaLnkTwo
import Derived.Test.YtiiplchakanomaaLnkOps
import Derived.Test.YtiiplchakanomaaKitM
import Derived.Deep.QuietTactic
import Derived.Deep.CutBlock
import Derived.BigQuiet
namespace Go.Proofs.Ytiiplchakanomaa.ldoes
open Go.Proofs.Ytiiplchakanomaa
open Go.ChangeShapes Go.WideShapes Go.ChangeAt Go.RowKit Go

def opO (K : Int) (s : ByteArray) (f : Fte) : Obj := .cells #[.int .i64 K, .string s, .int .i64 f.kind, .int .i64 f.n, .int .u8 (f.mask.toNat : Int)] 36 (0, 0)
theorem opO_cells {K : Int} {s : ByteArray} {f : Fte} {q : Nat} {w : World} (h : w.heap[q]? = some (opO K s f)) : w.cell? ⟨q, 0, none⟩ = some (.int .i64 K) ∧ w.cell? ⟨q, 1, none⟩ = some (.string s) ∧ w.cell? ⟨q, 2, none⟩ = some (.int .i64 f.kind) ∧ w.cell? ⟨q, 3, none⟩ = some (.int .i64 f.n) ∧ w.cell? ⟨q, 4, none⟩ = some (.int .u8 (f.mask.toNat : Int)) := by
  unfold opO at h
  refine ⟨?_, ?_, ?_, ?_, ?_⟩ <;> simp [World.cell?, h]
/-- what the loop holds -/
def Held (w0 : World) (room b m n : Nat) (w : World) : Prop :=
  ∃ L T, B2 w0 room L T L T b m w ∧ L.length ≤ room ∧ T.length ≤ n ∧ LateOk T
/-- and with the call's block -/
def Held3 (w0 : World) (room b m n q : Nat) (ob : Obj) (w : World) : Prop :=
  ∃ L T, B3 w0 room L T L T b m q ob w ∧ L.length ≤ room ∧ T.length ≤ n ∧ LateOk T

set_option maxRecDepth 100000 in
set_option maxHeartbeats 16000000 in
theorem walk (n0 : Int) (v1 : Value) (l : List (Int × ByteArray × Int × Int × Int)) (w : World) (_h0 : -9223372036854775808 ≤ n0 ∧ n0 ≤ 9223372036854775807) (hO : OpsAt w v1 l) (hl : OpsOk l) :
    Calls Try.prog 3 #[.int .i64 n0, v1] w fun e w' => e = .returned (.bool true) ∧ Below w.heap.size w w' := by
  obtain ⟨aa, capa, rfl, ha⟩ := hO
  have HA := Lib.hid ha
  have HL := Lib.hid hl
  clear ha hl
  by_cases hr : 1 ≤ n0 ∧ n0 ≤ 4096
  · obtain ⟨r, hrn⟩ : ∃ r : Nat, n0 = (r : Int) := ⟨n0.toNat, by omega⟩
    subst hrn
    have hr1 : 1 ≤ r := by omega
    have hr2 : r ≤ 4096 := by omega
    have HR := Lib.hid (And.intro hr1 hr2)
    have C0 := lg_new (w0 := w) r hr1 hr2 (Below.refl _ w)
    obtain ⟨b, hb⟩ : ∃ b, w.heap.size = b := ⟨_, rfl⟩
    rw [hb] at C0
    clear hr1 hr2 hr
    go_enter Try.func3, Try.ntmps3
    go_wp2_with fail
    refine C0.mono ?_
    rintro e w1 ⟨rfl, h1, -⟩
    obtain ⟨w2, hw2⟩ : ∃ w2, w1.alloc (.cells #[.int .i64 r, .slice none 0 0, .slice none 0 0] 32) = w2 := ⟨_, rfl⟩
    have H2 := Lib.hid (show Held w r b w1.heap.size 0 w2 from ⟨[], [], B2.new h1 hw2, Nat.zero_le _, Nat.le_refl _, fun q hq => by cases hq⟩)
    clear C0 h1 hb
    go_wp2_with fail
    go_loopw [7, 8] (fun m i wr => ∃ (k mb : Nat), k ≤ l.length ∧ k ≤ 200 ∧ m = .pointer (some ⟨mb, 0, none⟩) ∧ i = .int .i64 k ∧ Held w r b mb k wr) (fun _ i _ => 200 - (intOf i).toNat)
    case atStart => exact ⟨0, _, Nat.zero_le _, Nat.zero_le _, rfl, rfl, H2.out⟩
    case round =>
      clear H2
      obtain ⟨k, mb, hk1, hk2, rfl, rfl, L, T, hd, hLr, hTk, hLo⟩ := hrel
      by_cases hlt : k < l.length ∧ k < 200
      · obtain ⟨t1, t2⟩ := hlt
        obtain ⟨ba, off, rfl, hba, hcells⟩ := HA.out (by intro e; rw [e] at t1; simp at t1)
        obtain ⟨c0, c1, c2, c3, c4⟩ := hcells k t1
        obtain ⟨z0, z1, z2, z3, z4⟩ := HL.out.2 _ (List.getElem_mem t1)
        have old : ∀ i, wr.cell? ⟨ba, i, none⟩ = w.cell? ⟨ba, i, none⟩ := fun i => hd.below.cell (p := ⟨ba, i, none⟩) hba
        obtain ⟨q0, hq0⟩ : ∃ q0, l[k] = q0 := ⟨_, rfl⟩
        rw [hq0] at c0 c1 c2 c3 c4 z0 z1 z2 z3 z4
        rw [← old] at c0 c1 c2 c3 c4
        rw [← opF_mask z3] at c4
        obtain ⟨f, hf⟩ : ∃ f, opF q0 = f := ⟨_, rfl⟩
        rw [hf] at c4
        rw [show q0.2.2.1 = f.kind by rw [← hf]; rfl] at c2
        rw [show q0.2.2.2.1 = f.n by rw [← hf]; rfl] at c3 z2
        generalize q0.1 = K at c0
        generalize q0.2.1 = s at c1 z4
        have HZ := Lib.hid (And.intro z4 z2.2)
        obtain ⟨w3, hw3⟩ : ∃ w3, wr.alloc (.cells #[.int .i64 K, .string s, .int .i64 f.kind, .int .i64 f.n, .int .u8 (f.mask.toNat : Int)] 36) = w3 := ⟨_, rfl⟩
        have hB3 : Below wr.heap.size wr w3 := by rw [← hw3]; exact (Below.refl _ wr).alloc (Nat.le_refl _) _
        obtain ⟨q, hq⟩ : ∃ q, wr.heap.size = q := ⟨_, rfl⟩
        have hq3 : w3.heap[q]? = some (opO K s f) := by rw [← hq, ← hw3]; exact heap_alloc_new wr _
        have H3 := Lib.hid (show B3 w r L T L T b mb q (opO K s f) w3 from hd.holds hq hB3 hq3)
        have HC := Lib.hid (And.intro hLr (And.intro hTk hLo))
        have e1 : (k : Int) < (l.length : Int) := by omega
        have e2 : (k : Int) < 200 := by omega
        have HK := Lib.hid (And.intro t1 t2)
        obtain ⟨i0, i1, i2, i3, i4⟩ := opO_cells hq3
        clear old hcells hk1 hk2 t1 t2 hB3 hq3 hd z0 z1 z2 z3 z4 hf hq0 hLr hTk hLo
        go_upto_block 2 with fail
        clear i0 hw3 c0 c1 c2 c3 c4 hq
        go_cut [7, 10, 11, 12, 13] from 60 to 106 (fun m _ _ _ _ wx => ∃ mb, m = .pointer (some ⟨mb, 0, none⟩) ∧ Held3 w r b mb (k + 1) q (opO K s f) wx)
        case first =>
          have hcase : K = 0 ∨ K = 1 ∨ K = 2 ∨ K = 3 ∨ ((K == 0) = false ∧ (K == 1) = false ∧ (K == 2) = false ∧ (K == 3) = false) := by
            simp only [beq_eq_false_iff_ne]; omega
          rcases hcase with rfl | rfl | rfl | rfl | ⟨k0, k1, k2, k3⟩
          · as_aux_lemma =>
              have C1 := fun W (h : B3 w r L T L T b mb q (opO 0 s f) W) => h.send HR.out.2 (by have := HC.out.2.1; have := HK.out.2; omega) s HZ.out.1 f HZ.out.2
              have C2 := fun W (h : B3 w r (sendL r L s f) (sendT T s f) L T b mb q (opO 0 s f) W) => h.rsend HR.out.2 (by have := HC.out.2.1; have := HK.out.2; omega) s f HZ.out.2
              have HY := Lib.hid (H3.out.later ((Below.refl _ _).drew))
              obtain ⟨-, a1, a2, a3, a4⟩ := opO_cells HY.out.2
              unfold fteV at C1 C2
              clear i1 i2 i3 i4
              go_wp2_with fail
              go_region_held3 (fun w' => w'.cell? ⟨q, 1, none⟩ = some (.string s) ∧ w'.cell? ⟨q, 2, none⟩ = some (.int .i64 f.kind) ∧ w'.cell? ⟨q, 3, none⟩ = some (.int .i64 f.n) ∧ w'.cell? ⟨q, 4, none⟩ = some (.int .u8 (f.mask.toNat : Int)))
                (first | exact ⟨a1, a2, a3, a4⟩ | exact ⟨b1, b2, b3, b4⟩ | exact ⟨d1, d2, d3, d4⟩)
                (first
                  | (go_at_call 9; refine (C1 _ HY.out).mono ?_; rintro e w4 ⟨rfl, h4⟩; have H4 := Lib.hid h4; obtain ⟨-, b1, b2, b3, b4⟩ := opO_cells H4.out.2; clear h4)
                  | (go_at_call 10; refine (C2 _ H4.out).mono ?_; rintro e w5 ⟨rfl, h5⟩; have H5 := Lib.hid h5; obtain ⟨-, d1, d2, d3, d4⟩ := opO_cells H5.out.2; clear h5))
              all_goals (
                have HQ := Lib.hid (show Held3 w r b mb (k + 1) q (opO 0 s f) w5 from ⟨_, _, H5.out, sendL_len HC.out.1, Nat.le_trans (sendT_len T s f) (Nat.succ_le_succ HC.out.2.1), HC.out.2.2.send s f⟩)
                have hne : (sendE f != sendE f) = false := by simp
                generalize sendE f = E at *
                clear C1 C2 a1 a2 a3 a4 b1 b2 b3 b4 d1 d2 d3 d4 H4 H5 HY
                go_wp2_with fail
                go_meet
                exact ⟨_, rfl, HQ.out⟩)
          · as_aux_lemma =>
              have C1 := H3.out.step HR.out.2 (by have := HC.out.2.1; have := HK.out.2; omega) HC.out.2.2
              clear i1 i2 i3 i4
              go_wp2_with fail
              refine C1.mono ?_
              rintro e w4 ⟨rfl, h4⟩
              have C2 := h4.rstep HR.out.2 (by have := HC.out.2.1; have := HK.out.2; omega) HC.out.2.2
              clear h4 C1
              go_wp2_with fail
              refine C2.mono ?_
              rintro e w5 ⟨rfl, h5⟩
              have HQ := Lib.hid (show Held3 w r b mb (k + 1) q (opO 1 s f) w5 from ⟨_, _, h5, stepL_len HC.out.1, Nat.le_trans (leftT_len T) (Nat.le_succ_of_le HC.out.2.1), HC.out.2.2.left⟩)
              clear C2 h5
              go_wp2_with fail
              go_meet
              exact ⟨_, rfl, HQ.out⟩
          · as_aux_lemma =>
              have C1 := H3.out.take (by have := HC.out.1; have := HR.out.2; omega)
              obtain ⟨X, hX⟩ : ∃ X, L.headD ⟨#[]⟩ = X := ⟨_, rfl⟩
              obtain ⟨y, hy⟩ : ∃ y, (!L.isEmpty) = y := ⟨_, rfl⟩
              rw [hX, hy] at C1
              clear i1 i2 i3 i4
              go_wp2_with fail
              refine C1.mono ?_
              rintro e w4 ⟨rfl, h4⟩
              have C2 := h4.rtake (by have := HC.out.1; have := HR.out.2; omega)
              rw [hX, hy] at C2
              clear h4 C1 hX hy
              go_wp2_with fail
              refine C2.mono ?_
              rintro e w5 ⟨rfl, h5⟩
              have HQ := Lib.hid (show Held3 w r b mb (k + 1) q (opO 2 s f) w5 from ⟨_, _, h5, by rw [List.length_tail]; exact Nat.le_trans (Nat.sub_le _ _) HC.out.1, Nat.le_succ_of_le HC.out.2.1, HC.out.2.2⟩)
              clear C2 h5
              have x1 : (X.toList != X.toList) = false := by simp
              have y1 : (y != y) = false := by simp
              go_wp2
              go_meet
              exact ⟨_, rfl, HQ.out⟩
          · as_aux_lemma =>
              have C1 := H3.out.cut
              clear i1 i2 i3 i4
              go_wp2_with fail
              refine C1.mono ?_
              rintro e w4 ⟨rfl, h4⟩
              obtain ⟨w5, hw5⟩ : ∃ w5, w4.alloc (.cells #[.int .i64 r, .slice none 0 0, .slice none 0 0] 32) = w5 := ⟨_, rfl⟩
              have HQ := Lib.hid (show Held3 w r b w4.heap.size (k + 1) q (opO 3 s f) w5 from ⟨_, _, h4.anew hw5, Nat.zero_le _, Nat.zero_le _, fun q hq => (by cases hq)⟩)
              clear C1 h4
              go_wp2_with fail
              go_meet
              exact ⟨_, rfl, HQ.out⟩
          · as_aux_lemma =>
              have HQ := Lib.hid (show Held3 w r b mb (k + 1) q (opO K s f) w3 from ⟨_, _, H3.out, HC.out.1, Nat.le_succ_of_le HC.out.2.1, HC.out.2.2⟩)
              clear i1 i2 i3 i4
              go_wp2
              go_meet
              exact ⟨_, rfl, HQ.out⟩
        case rest =>
          clear H3 i1 i2 i3 i4
          obtain ⟨m2, rfl, L2, T2, h4, g1, g2, g3⟩ := hcut
          have C1 := h4.waits
          have HC2 := Lib.hid (And.intro g1 (And.intro g2 g3))
          clear h4 HC g1 g2 g3
          go_wp2_with fail
          refine C1.mono ?_
          rintro e w5 ⟨rfl, h5⟩
          obtain ⟨a, c, a', c', s1, s2⟩ := h5.shows
          have HQ := Lib.hid (show Held w r b m2 (k + 1) w5 from ⟨L2, T2, h5.two, HC2.out⟩)
          obtain ⟨NL, hNL⟩ : ∃ NL, L2.length = NL := ⟨_, rfl⟩
          obtain ⟨NT, hNT⟩ : ∃ NT, T2.length = NT := ⟨_, rfl⟩
          rw [hNL] at s1 ⊢
          rw [hNT] at s2 ⊢
          have x1 : ((NL : Int) != (NL : Int)) = false := by simp
          have y1 : ((NT : Int) != (NT : Int)) = false := by simp
          have hwk := wrap_up HK.out.2 (by decide)
          clear h5 C1 HC2 hNL hNT
          go_wp2
          go_roundw
          case rel => exact ⟨k + 1, _, HK.out.1, HK.out.2, rfl, (by first | exact num_up hwk | rfl), HQ.out⟩
          case measure => first | exact meas_v HK.out.2 hwk rfl rfl | exact meas_u HK.out.2 rfl rfl
      · have HB := Lib.hid hd.below
        have hcase : ¬ ((k : Int) < (l.length : Int)) ∨ ((k : Int) < (l.length : Int) ∧ ¬ (k : Int) < 200) := by omega
        clear hlt hk1 hk2 hd hLr hTk hLo
        rcases hcase with hge | ⟨hlt1, hge⟩
        all_goals (
          go_wp2_with fail
          refine (fixed_any _).mono ?_
          rintro e w5 ⟨rfl, hB5⟩
          have HB5 := Lib.hid (HB.out.trans (hB5.mono HB.out.size))
          clear hB5
          go_wp2
          go_ret
          exact ⟨rfl, HB5.out⟩)
  · have hno : n0 < 1 ∨ 4096 < n0 := by omega
    have CN := new_no n0 hno w
    have CF := fixed_any w
    clear hr
    rcases hno with hn | hn
    · go_enter Try.func3, Try.ntmps3
      go_wp2_with fail
      refine CN.mono ?_
      rintro e w1 ⟨rfl, rfl⟩
      go_wp2_with fail
      refine CF.mono ?_
      rintro e w2 ⟨rfl, hB⟩
      have HB := Lib.hid hB
      clear hB CF CN
      go_wp2
      go_ret
      exact ⟨rfl, HB.out⟩
    · have hn2 : ¬ n0 < 1 := by omega
      go_enter Try.func3, Try.ntmps3
      go_wp2_with fail
      refine CN.mono ?_
      rintro e w1 ⟨rfl, rfl⟩
      go_wp2_with fail
      refine CF.mono ?_
      rintro e w2 ⟨rfl, hB⟩
      have HB := Lib.hid hB
      clear hB CF CN
      go_wp2
      go_ret
      exact ⟨rfl, HB.out⟩
set_option maxRecDepth 100000 in
/-- WHAT THE WALK GIVES, for every argument that can be read. -/
theorem contract (H : Type) (enc : TypeId × Value → H) (W : World) (base : Nat) (args : Array Value) (ds gs : List (DataW H)) (before : List MemPlace)
    (hval : ∀ (j : Nat) t v, Try.f3.params[j]? = some t → args[j]? = some v → Value.okWide Try.prog W .any base t v)
    (hW : DataW.Whole enc Try.prog Try.f3.params.toList Rows.linkDoesSpec.vars false W args.toList ds gs before)
    (hreach : (DataW.weightsEach Try.prog (Try.f3.params.toList) ds).all (· ≤ reachBytes) = true) :
    Calls Try.prog 3 args W fun e W' => ∃ v, e = .returned v ∧ Rows.linkDoesSpec.post enc Try.prog Try.f3 false true false false W args v W' := by
  have hW' := hW
  obtain ⟨p, q, hA0, hV, rfl, hfz, hnd⟩ := hW
  have hA : DataW.TrodAll enc Try.prog W 0 (fun _ => true) true Try.f3.params.toList args.toList ds p := hA0
  rw [Try.params3] at hA hval hreach
  obtain ⟨v0, v1, d0, d1, p0, p1, rfl, rfl, rfl, h0, h1⟩ := trodAll_two hA
  obtain ⟨rfl, rfl⟩ := trodVars_none hV
  obtain ⟨n0, rfl, rfl, rfl, wn0⟩ := open_int Try.underlying3 (hval 0 3 v0 rfl rfl) h0
  have r0 := int_range wn0
  have lt1 : ∀ x ∈ p1, x.block < W.heap.size := fun x hx => hW'.lt x (by simp [hx])
  obtain ⟨l1, k1, r1⟩ := ops_open (hval 1 22 v1 rfl rfl) h1 lt1 hreach (j := 1) rfl rfl
  clear hA0 hval
  simp only [List.append_nil] at hW'
  refine (walk n0 v1 l1 W r0 k1 r1).mono fun e W' ⟨he, hB⟩ => ?_
  subst he
  exact ⟨_, rfl, post_of_below (pa := [] ++ (p1)) (pv := []) hW' (fun _ _ _ => trodAll_mk1 (shut_bool Try.underlying4 _)) (fun sp hsp => trodAll_mk2 (shut_int Try.underlying3 wn0) (WideElems.Trod_stays laidOut (by kernel_rfl) (of_decide_eq_true (by kernel_rfl)) h1 (fun x hx => hB.same (lt1 x hx)) (fun x hx => hsp x (by simp [hx])))) (fun _ _ => rfl) (by simp) hB (ok_one (by kernel_rfl) rfl (okWide_bool_mk Try.underlying4 _))⟩

theorem reads (os : Os) {H : Type} (enc : TypeId × Value → H) : ∃ places, DataW.whole enc Try.prog ((laidWorld os).forCall (fun _ _ => 0) ⟨#[], #[.int .i64 0, .slice none 0 0], []⟩).memory Try.f3.params.toList Rows.linkDoesSpec.vars false (#[.int .i64 0, .slice none 0 0] : Array Value).toList 8 = some ([.lit (.int .i64 0), .nil], [], places) :=
  ⟨[], by kernel_rfl⟩

set_option maxRecDepth 100000 in
theorem lifted (os : Os) (started : os.Started) (H : Type) (enc : TypeId × Value → H) (F : Stop.Interp) :
    ReturnsInHanded {} Try.checked os 3 .any ((OpenSpec.ofChange Rows.linkDoesSpec).preRow enc Try.prog Try.f3 Rows.linkDoesRow.domain false Rows.linkDoesRow.laid) (((OpenSpec.ofChange Rows.linkDoesSpec).at F).post enc Try.prog Try.f3 false true false false) := by
  obtain ⟨places, hx⟩ := reads os enc
  refine returnsInHanded_of_row (C := Try.checked) (s := OpenSpec.ofChange Rows.linkDoesSpec) own started (by kernel_rfl) Try.func3
    (witness_row_at (enc := enc) (C := Try.checked) false (laidWorld os) #[.int .i64 0, .slice none 0 0] rfl (by kernel_rfl) (by kernel_rfl) (by kernel_rfl)
      (OpenSpec.preRow_of_cond 8 hx (by kernel_rfl) (fun k hk => by cases hk) (by kernel_rfl) (laid_met os _))) ?_
  intro W base args ds gs before hval hW _ hcond hreach hL _ _
  obtain ⟨p, q, hA0, hV, hpq, hfz, hnd⟩ := id hW
  obtain ⟨rfl, _⟩ := trodVars_none hV
  rw [List.append_nil] at hreach
  exact contract H enc W base args ds [] before hval hW hreach

theorem said : Rows.LinkDoesSaid :=
  OpenClaim.holds_of_cond 3 Try.f3 rfl rfl rfl rfl rfl rfl rfl ⟨rfl, rfl, rfl, rfl, rfl⟩ rfl rfl rfl rfl rfl (by kernel_rfl) Try.func3 (by kernel_rfl)
    (of_decide_eq_true (by kernel_rfl)) (by unfold Func.isWrapper; first | (rw [if_pos (by decide +kernel)]; kernel_rfl) | (rw [if_neg (by decide +kernel)]; exact ⟨rfl, rfl⟩))
    (fun os started H enc _ F => by rw [OpenClaim.pre_eq_preRow]; exact lifted os started H enc F)



end Go.Proofs.Ytiiplchakanomaa.ldoes

