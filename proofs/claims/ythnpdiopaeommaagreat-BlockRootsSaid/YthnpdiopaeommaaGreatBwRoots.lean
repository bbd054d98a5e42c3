/-
  Each Commit has the next number, and opened anew the root is the last one: for every list of texts, of which the first sixty are committed.
  Conditions: none besides the row's own.
-/
import Derived.Test.YthnpdiopaeommaaGreatBlkU
import Derived.Test.YthnpdiopaeommaaGreatBlkV0
import Derived.Test.YthnpdiopaeommaaGreatKitS
import Derived.OwnWalk
namespace Go.Proofs.YthnpdiopaeommaaGreat.roots
open Go.ChangeShapes Go.WideShapes Go.ChangeAt Go.RowKit Go

structure Calm8 (x : VS) (j : Nat) : Prop where
  sound : Sound x
  arm : x.disk.armed = 0
  num : x.num ≤ 1 + j
  made : x.disk.made ≤ 5 + 5 * j
theorem calm_commit {x : VS} {j : Nat} (h : Calm8 x j) (hj : j ≤ 100) {t : ByteArray} (ht : t.size ≤ 40) : (x.commit t).1 = 0 ∧ Calm8 (x.commit t).2 (j + 1) ∧ (x.commit t).2.text = t ∧ (x.commit t).2.num = x.num + 1 := by
  have hn := h.num
  obtain ⟨a, b⟩ := h.sound.commit_calm h.arm ht (by omega)
  have hm := made_vcommit x t
  rcases h.sound.commit ht (by omega) with ⟨_, c, d, e, _⟩ | ⟨e, _⟩
  · exact ⟨a, ⟨c, b, by omega, by have := h.made; omega⟩, d, e⟩
  · rw [a] at e; cases e
set_option maxRecDepth 100000 in
set_option maxHeartbeats 8000000 in
theorem walk (va : Value) (rs : List ByteArray) (w : World) (hOa : StrsAt w va rs) (hza : rs.length ≤ 140737488351232 ∧ ∀ s ∈ rs, s.size ≤ 140737488351232) :
    Calls Tryz.prog 6 #[va] w fun r w' => r = .returned (.bool true) ∧ Below w.heap.size w w' := by
  obtain ⟨aa, capa, rfl, ha⟩ := hOa
  have HA := Lib.hid ha
  have HZ := Lib.hid hza
  have hza1 := hza.1
  have CL := laid_vol 40 ⟨#[]⟩ ⟨by decide, by decide⟩ (by decide) w
  have CF := fun w => fixed8_any w
  clear ha hza
  go_enter Tryz.func6, Tryz.ntmps6
  go_wp2_with fail
  refine CL.mono ?_
  rintro e w1 ⟨b, g, m, r, n, p, p2, rfl, hl, hn⟩
  obtain rfl : n = 40 := by omega
  obtain ⟨f0, f1, f2, f3, _⟩ := format_blank (n := 40) (by omega) (by omega) (t := ⟨#[]⟩) (by decide)
  obtain ⟨l, c, q, rfl, rfl, h1⟩ := hl.vw f0
  have H1 := Lib.hid h1
  have C0 := Lib.hid (And.intro (show Calm8 (vformX (fresh (blank 40)) ⟨#[]⟩) 0 from ⟨f1, f2, Nat.le_refl _, by have := (len_vformD (fresh (blank 40)) ⟨#[]⟩).2; show (vformD _ _).made ≤ _; have e : (fresh (blank 40)).made = 0 := rfl; omega⟩) (show (vformX (fresh (blank 40)) ⟨#[]⟩).text = ⟨#[]⟩ ∧ (vformX (fresh (blank 40)) ⟨#[]⟩).num = 1 from ⟨rfl, rfl⟩))
  clear hl f0 f1 f2 f3 h1 CL hn
  generalize vformX (fresh (blank 40)) ⟨#[]⟩ = x0 at *
  go_wp2
  go_loopw [10, 8, 9] (fun i t num wr => ∃ (j : Nat) (x : VS), j ≤ rs.length ∧ j ≤ 60 ∧ i = .int .i64 j ∧ t = .string x.text ∧ num = .int .i64 x.num ∧ VW w l b g m c x wr ∧ Hid (Calm8 x j)) (fun i _ _ _ => rs.length - (intOf i).toNat)
  case atStart => exact ⟨0, x0, Nat.zero_le _, by omega, rfl, by rw [C0.out.2.1], by rw [C0.out.2.2]; rfl, H1.out, Lib.hid C0.out.1⟩
  case round =>
    obtain ⟨j, x, hj, hj1, rfl, rfl, rfl, hw, HG⟩ := hrel
    clear H1 C0
    have HW := Lib.hid hw
    by_cases hlt : j < rs.length ∧ j < 60
    · obtain ⟨hlt1, hlt2⟩ := hlt
      obtain ⟨bb, off, rfl, hb, hc⟩ := HA.out (by rintro rfl; simp at hlt1)
      have hji : (j : Int) < (rs.length : Int) := by omega
      have hj2 : (j : Int) < 60 := by omega
      have hcw : wr.cell? ⟨bb, off + j, none⟩ = some (.string rs[j]) := (hw.below.cell (p := ⟨bb, off + j, none⟩) hb).trans (hc j hlt1)
      have HCw := Lib.hid (fun (W : World) (h : Below w.heap.size w W) => (h.cell (p := ⟨bb, off + j, none⟩) hb).trans (hc j hlt1))
      have hRs := HZ.out.2 rs[j] (List.getElem_mem hlt1)
      have hmx : x.disk.made < 900000000 := by have := HG.out.made; omega
      have CA := fun W (h : VW w l b g m c x W) => h.commit hmx rs[j] (by omega)
      generalize rs[j] = R at *
      by_cases hR : R.size ≤ 40
      · obtain ⟨a1, a2, a3, a4⟩ := calm_commit HG.out (by omega) hR
        rw [a1] at CA
        generalize (x.commit R).2 = y at *
        have hri : (R.size : Int) ≤ 40 := by omega
        obtain ⟨o1, o2, _⟩ := a2.sound.opens
        have HN := Lib.hid a2
        have CR := fun W (h : VW w l b g m c y W) => h.root
        have CO := fun W (h : VW w l b g m c y W) => h.open_
        rw [o1, o2] at CO
        have CR2 := fun t k W (h : VW w t b g m k ⟨y.disk, y.text, y.num, [], false⟩ W) => h.root
        simp only at CR2
        have HY := Lib.hid (And.intro a3 a4)
        rw [a3] at CR CR2 CO
        obtain ⟨N, hN⟩ : ∃ N, y.num = N := ⟨_, rfl⟩
        have HYn := Lib.hid hN
        rw [hN] at CR CR2 CO a4
        have hnn : (x.num : Int) + 1 = (N : Int) := by omega
        have hNle : N ≤ 1000 := by have := HG.out.num; omega
        have hRR : (R.toList == R.toList) = true := by simp
        have hRR2 : (R.toList != R.toList) = false := by simp
        clear hw hc hlt1 a1 a2 a3 o1 o2 hN a4
        go_wp2_with fail
        refine (CA _ HW.out).mono ?_
        rintro e w2 ⟨rfl, h2, _⟩
        have H2 := Lib.hid h2
        have hc2 := HCw.out w2 h2.below
        clear h2 CA hcw
        go_wp2_with fail
        refine (CR _ H2.out).mono ?_
        rintro e w3 ⟨rfl, h3, _⟩
        have H3 := Lib.hid h3
        clear h3 CR
        go_wp2_with fail
        refine (CO _ H3.out).mono ?_
        rintro e w4 ⟨pp, rfl, hpp, h4, _⟩
        have hp' : ∃ t k, pp = some ⟨t, 0, none⟩ ∧ VW w t b g m k ⟨y.disk, R, N, [], false⟩ w4 := by
          rcases hpp with ⟨_, t, k, e, h⟩ | ⟨e, _⟩
          · exact ⟨t, k, e, h⟩
          · exact absurd rfl e
        obtain ⟨t, k, rfl, ht4⟩ := hp'
        have H4 := Lib.hid h4
        have T4 := Lib.hid ht4
        clear hpp h4 ht4 CO
        go_wp2_with fail
        refine (CR2 _ _ _ T4.out).mono ?_
        rintro e w5 ⟨rfl, _, hB5⟩
        have H5 := Lib.hid (H4.out.later hB5)
        clear hB5 CR2
        go_wp2
        go_roundw
        case rel => exact ⟨j + 1, y, by omega, by omega, by go_num, by rw [HY.out.1], by rw [HYn.out], H5.out, HN⟩
        case measure => simp [intOf]; omega
      · have hlong : x.commit R = (83, x) := HG.out.sound.commit_long (by omega)
        rw [hlong] at CA
        have hri : ¬ (R.size : Int) ≤ 40 := by omega
        obtain ⟨o1, o2, _⟩ := HG.out.sound.opens
        have CR := fun W (h : VW w l b g m c x W) => h.root
        have CO := fun W (h : VW w l b g m c x W) => h.open_
        rw [o1, o2] at CO
        have CR2 := fun t k W (h : VW w t b g m k ⟨x.disk, x.text, x.num, [], false⟩ W) => h.root
        simp only at CR2 CA
        have HY := Lib.hid (show x.text = x.text from rfl)
        have hRR : (x.text.toList == x.text.toList) = true := by simp
        have hRR2 : (x.text.toList != x.text.toList) = false := by simp
        obtain ⟨T, hT⟩ : ∃ T, x.text = T := ⟨_, rfl⟩
        obtain ⟨N, hN⟩ : ∃ N, x.num = N := ⟨_, rfl⟩
        rw [hT] at CR CR2 CO hRR hRR2 ⊢
        rw [hN] at CR CR2 CO ⊢
        have HTN := Lib.hid (And.intro hT hN)
        clear hw hc hlt1 hlong o1 o2 hT hN HY
        go_wp2_with fail
        refine (CA _ HW.out).mono ?_
        rintro e w2 ⟨rfl, h2, _⟩
        have H2 := Lib.hid h2
        have hc2 := HCw.out w2 h2.below
        clear h2 CA hcw
        go_wp2_with fail
        refine (CR _ H2.out).mono ?_
        rintro e w3 ⟨rfl, h3, _⟩
        have H3 := Lib.hid h3
        clear h3 CR
        go_wp2_with fail
        refine (CO _ H3.out).mono ?_
        rintro e w4 ⟨pp, rfl, hpp, h4, _⟩
        have hp' : ∃ t k, pp = some ⟨t, 0, none⟩ ∧ VW w t b g m k ⟨x.disk, T, N, [], false⟩ w4 := by
          rcases hpp with ⟨_, t, k, e, h⟩ | ⟨e, _⟩
          · exact ⟨t, k, e, h⟩
          · exact absurd rfl e
        obtain ⟨t, k, rfl, ht4⟩ := hp'
        have H4 := Lib.hid h4
        have T4 := Lib.hid ht4
        clear hpp h4 ht4 CO
        go_wp2_with fail
        refine (CR2 _ _ _ T4.out).mono ?_
        rintro e w5 ⟨rfl, _, hB5⟩
        have H5 := Lib.hid (H4.out.later hB5)
        clear hB5 CR2
        go_wp2
        go_roundw
        case rel => exact ⟨j + 1, x, by omega, by omega, by go_num, by rw [HTN.out.1], by rw [HTN.out.2], H5.out, Lib.hid ⟨HG.out.sound, HG.out.arm, by have := HG.out.num; omega, by have := HG.out.made; omega⟩⟩
        case measure => simp [intOf]; omega
    · have hlt' : ((j : Int) < (rs.length : Int) ∧ ¬ (j : Int) < 60) ∨ ¬ (j : Int) < (rs.length : Int) := by omega
      clear hw hlt
      rcases hlt' with ⟨hji, hj2⟩ | hji
      all_goals (
        go_wp2_with fail
        refine (CF _).mono ?_
        rintro e w2 ⟨rfl, hB2⟩
        have HB2 := Lib.hid (HW.out.below.trans (hB2.mono HW.out.below.size))
        clear hB2
        go_wp2
        go_ret
        exact ⟨rfl, HB2.out⟩)
set_option maxRecDepth 100000 in
/-- WHAT THE WALK GIVES, for every argument that can be read. -/
theorem contract (H : Type) (enc : TypeId × Value → H) (W : World) (base : Nat) (args : Array Value) (ds gs : List (DataW H)) (before : List MemPlace)
    (hval : ∀ (j : Nat) t v, Tryz.f6.params[j]? = some t → args[j]? = some v → Value.okWide Tryz.prog W .any base t v)
    (hW : DataW.Whole enc Tryz.prog Tryz.f6.params.toList Rows.blockRootsSpec.vars false W args.toList ds gs before)
    (hreach : (DataW.weightsEach Tryz.prog (Tryz.f6.params.toList) ds).all (· ≤ reachBytes) = true) :
    Calls Tryz.prog 6 args W fun e W' => ∃ v, e = .returned v ∧ Rows.blockRootsSpec.post enc Tryz.prog Tryz.f6 false true false false W args v W' := by
  have hW' := hW
  obtain ⟨p, q, hA0, hV, rfl, hfz, hnd⟩ := hW
  have hA : DataW.TrodAll enc Tryz.prog W 0 (fun _ => true) true Tryz.f6.params.toList args.toList ds p := hA0
  rw [Tryz.params6] at hA hval hreach
  obtain ⟨v0, d0, rfl, rfl, h0⟩ := trodAll_one hA
  obtain ⟨rfl, rfl⟩ := trodVars_none hV
  have lt0 : ∀ x ∈ p, x.block < W.heap.size := fun x hx => hW'.lt x (by simp [hx])
  obtain ⟨l0, k0, r0⟩ := strs_open (hval 0 38 v0 rfl rfl) h0 lt0 hreach (j := 0) rfl rfl
  clear hA0 hval
  simp only [List.append_nil] at hW'
  refine (walk v0 l0 W k0 r0).mono fun e W' ⟨he, hB⟩ => ?_
  subst he
  exact ⟨_, rfl, post_of_below (pa := p) (pv := []) hW' (fun _ _ _ => trodAll_mk1 (shut_bool Tryz.underlying4 _)) (fun sp hsp => trodAll_mk1 (WideElems.Trod_stays laidOut (by kernel_rfl) (of_decide_eq_true (by kernel_rfl)) h0 (fun x hx => hB.same (lt0 x hx)) (fun x hx => hsp x (by simp [hx])))) (fun _ _ => rfl) (by simp) hB (ok_one (by kernel_rfl) rfl (okWide_bool_mk Tryz.underlying4 _))⟩

theorem reads (os : Os) {H : Type} (enc : TypeId × Value → H) : ∃ places, DataW.whole enc Tryz.prog ((laidWorld os).forCall (fun _ _ => 0) ⟨#[], #[.slice none 0 0], []⟩).memory Tryz.f6.params.toList Rows.blockRootsSpec.vars false (#[.slice none 0 0] : Array Value).toList 8 = some ([.nil], [], places) :=
  ⟨[], by kernel_rfl⟩

set_option maxRecDepth 100000 in
theorem lifted (os : Os) (started : os.Started) (H : Type) (enc : TypeId × Value → H) (F : Stop.Interp) :
    ReturnsInHanded {} Tryz.checked os 6 .any ((OpenSpec.ofChange Rows.blockRootsSpec).preRow enc Tryz.prog Tryz.f6 Rows.blockRootsRow.domain false Rows.blockRootsRow.laid) (((OpenSpec.ofChange Rows.blockRootsSpec).at F).post enc Tryz.prog Tryz.f6 false true false false) := by
  obtain ⟨places, hx⟩ := reads os enc
  refine returnsInHanded_of_row (C := Tryz.checked) (s := OpenSpec.ofChange Rows.blockRootsSpec) own started (by kernel_rfl) Tryz.func6
    (witness_row_at (enc := enc) (C := Tryz.checked) false (laidWorld os) #[.slice none 0 0] rfl (by kernel_rfl) (by kernel_rfl) (by kernel_rfl)
      (OpenSpec.preRow_of_cond 8 hx (by kernel_rfl) (fun k hk => by cases hk) (by kernel_rfl) (laid_met os _))) ?_
  intro W base args ds gs before hval hW _ hcond hreach hL _ _
  obtain ⟨p, q, hA0, hV, hpq, hfz, hnd⟩ := id hW
  obtain ⟨rfl, _⟩ := trodVars_none hV
  rw [List.append_nil] at hreach
  exact contract H enc W base args ds [] before hval hW hreach

theorem said : Rows.BlockRootsSaid :=
  OpenClaim.holds_of_cond 6 Tryz.f6 rfl rfl rfl rfl rfl rfl rfl ⟨rfl, rfl, rfl, rfl, rfl⟩ rfl rfl rfl rfl rfl (by kernel_rfl) Tryz.func6 (by kernel_rfl)
    (of_decide_eq_true (by kernel_rfl)) (by unfold Func.isWrapper; first | (rw [if_pos (by decide +kernel)]; kernel_rfl) | (rw [if_neg (by decide +kernel)]; exact ⟨rfl, rfl⟩))
    (fun os started H enc _ F => by rw [OpenClaim.pre_eq_preRow]; exact lifted os started H enc F)



end Go.Proofs.YthnpdiopaeommaaGreat.roots

