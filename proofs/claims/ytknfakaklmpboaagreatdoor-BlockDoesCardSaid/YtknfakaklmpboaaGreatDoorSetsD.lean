/-
  merge: the least text of what each pair of bytes makes.
-/
import Derived.Test.YtknfakaklmpboaaGreatDoorMA
import Derived.Test.YtknfakaklmpboaaGreatDoorRound
namespace Go.Proofs.YtknfakaklmpboaaGreatDoor
open Go.RowKit Go.Shelf Go SM
attribute [local go_sem] Oper.semAt_some

/-- what a slice that owns its row holds, cell by cell -/
theorem row_cells {W : World} {base : Nat} {e : TypeId} {v : Value} {n : Nat} {xs : List Value} (h : W.ownsRow base e 1 v n xs) (hv : v ≠ .slice none 0 0) :
    ∃ g cap, v = .slice (some ⟨g, 0, none⟩) n cap ∧ base ≤ g ∧ g < W.heap.size ∧ n ≤ cap ∧ cap ≤ maxLen ∧ ∀ (i : Nat) u, xs[i]? = some u → W.cell? ⟨g, i, none⟩ = some u := by
  rcases h.2 with ⟨e, _⟩ | ⟨g, cap, cur, h1, h2, h3, h4, h5, h6, h7⟩
  · exact absurd e hv
  · refine ⟨g, cap, h1, h2, (Array.getElem?_eq_some_iff.1 h3).1, h4, h5, fun i u hu => ?_⟩
    have hi : i < n := by
      have := (List.getElem?_eq_some_iff.1 hu).1
      have := h.1
      omega
    rw [← h7, List.getElem?_take_of_lt (by omega)] at hu
    simp only [World.cell?, h3]
    simpa using hu

/-- boxes that are kept by an append to another box's slice -/
theorem keepB_appended {l : List (Nat × TypeId × Value)} {W w1 : World} {n₀ B : Nat} {e : TypeId} {v u : Value} {k : Nat} {xs : List Value} {tmp : Obj} (hl : ∀ p ∈ l, p.2.1 ≠ e ∧ p.1 ≠ B)
    (hrow : W.ownsRow n₀ e 1 v k xs) (hgrow : (W.alloc tmp).grownBy w1 v.ownBlock) : KeepB l W (w1.setCell ⟨B, 0, none⟩ u) := fun p hp h =>
  ((h.alloc tmp).kept hgrow (h.not_row (hl p hp).1 hrow)).other (hl p hp).2 u

theorem info5 : (Tryz.prog.info? 5).map (fun i => (i.zero, i.size, i.bytes)) = some (some (.int .u8 0), 1, 1) := by kernel_rfl

set_option maxRecDepth 100000 in
set_option maxHeartbeats 2000000 in
theorem merge_in (n : Nat) (hn : 6 ≤ n) (gf : Nat) (f : UInt8 → UInt8 → UInt8) (hf0 : f 0 0 = 0) (eg : ∀ args w, (callFunc gf args).run Tryz.prog w = .ok (.enter gf args) w)
    (hof : ∀ (x y : UInt8) (w : World), Calls Tryz.prog gf #[.int .u8 x.toNat, .int .u8 y.toNat] w fun e w' => e = .returned (.int .u8 (f x y).toNat) ∧ w = w')
    (a b : ByteArray) (ha : a.size ≤ 140737488355328) (hb : b.size ≤ 140737488355328) (w : World) :
    CallsIn Fence.wide n Tryz.prog 102 #[.string a, .string b, .func (.func gf) #[] #[]] w fun e w' => e = .returned (str (mk f a.data.toList b.data.toList)) ∧ Below w.heap.size w w' := by
  have h1 : 1 ≤ n := by omega
  have hro : Fence.wide.round = none := rfl
  obtain ⟨i0, hi, hz0, hz1, hz2⟩ := info_parts info5
  refine callsIn_of_wp_marks Tryz.func102 rfl trivial ?_ hro
  simp only [Tryz.ntmps102, List.size_toArray, List.length_cons, List.length_nil, Nat.reduceAdd, Nat.reduceSub, Array.replicate_succ, Array.replicate_zero, List.push_toArray, List.append_toArray, List.nil_append, List.cons_append]
  have hm : (max (a.size : Int) (b.size : Int)) = ((max a.size b.size : Nat) : Int) := by omega
  have HM := Lib.hid hm
  clear hm
  gi_wp2_with (first
    | (gi_at_make; refine wpListIn_make_own _ rfl (.const (.int .i64 0)) (.tmp 14) 79 rfl w.heap.size 5 i0 (.int .u8 0) 1 Tryz.underlying79 hi hz0 hz1 .i64 .i64 _ (max a.size b.size) rfl rfl HM.out (by rw [hz2]; omega) (by unfold maxLen; omega) (by simp) ?_; intro w1 hown1 hgrow1)
    | (refine ⟨trivial, ?_⟩; gi_at_call 122; refine (pairs_in _ _ _ _).mono ?_; rintro e w' ⟨rfl, rfl⟩))
  obtain ⟨hg1, hB1⟩ : w.heap.size + 1 < w1.heap.size ∧ Below w.heap.size w w1 := by
    rcases hown1.2 with ⟨e, _⟩ | ⟨g, cap, cur, e, _, hg, _⟩
    · cases e
    · cases e
      have hlt := (Array.getElem?_eq_some_iff.1 hg).1
      refine ⟨by simpa using hlt, ((Below.refl _ w).alloc (Nat.le_refl _) _).grown hgrow1 (by simp) (fun j e => by cases e)⟩
  have bF : Boxed w1 w.heap.size 129 (.func (.func gf) #[] #[]) := (Boxed.new w _ _).kept hgrow1 (by simp)
  have bS := Boxed.new w1 79 (.slice (some ⟨w.heap.size + 1, 0, none⟩) 0 (max a.size b.size))
  have bA := Boxed.new (w1.alloc (.cells #[.slice (some ⟨w.heap.size + 1, 0, none⟩) 0 (max a.size b.size)] 79)) 9 (.string a)
  have bB := Boxed.new ((w1.alloc (.cells #[.slice (some ⟨w.heap.size + 1, 0, none⟩) 0 (max a.size b.size)] 79)).alloc (.cells #[.string a] 9)) 9 (.string b)
  rw [World.size_alloc] at bA bB
  rw [World.size_alloc] at bB
  have hlen := pairsL_length a.data.toList b.data.toList
  refine wpIn_rangeFunc_ownG hro h1 (gf := 134) (lb := #[.pointer (some ⟨w1.heap.size + 1, 0, none⟩), .pointer (some ⟨w1.heap.size + 1 + 1, 0, none⟩)]) rfl trivial (enters_of Tryz.func134 (by kernel_rfl) rfl)
    (pairs_stops (n - 1) (by omega) (w1.heap.size + 1) (w1.heap.size + 1 + 1) a b ha hb _ (bA.alloc _) bB) KeepB.trans (fun W l o o' _ h1 h2 _ => KeepB.put W l o o' h1 h2) (Below.refl _ _) (fun _ => rfl)
    (fun pre W => (∃ v, Boxed W w1.heap.size 79 v ∧ W.ownsRow w.heap.size 5 1 v pre.length (pre.map fun p => Value.int .u8 (f p.1 p.2).toNat) ∧ v ≠ .slice none 0 0) ∧ Boxed W w.heap.size 129 (.func (.func gf) #[] #[]) ∧ Below w.heap.size w W)
    (fun _ _ _ => False)
    (OwnFrom.and (Own.from (holdsRow_own w.heap.size w1.heap.size 79 5 1 (fun pre : List (UInt8 × UInt8) => pre.length) (fun pre => pre.map fun p => Value.int .u8 (f p.1 p.2).toNat) (fun _ v => v ≠ .slice none 0 0)) _) (OwnFrom.and (Own.from (boxed_own _ _ _) _) (ownFrom_below (Nat.le_refl _) (by simp; omega))))
    (fun _ _ _ _ _ hs _ _ => hs)
    ⟨⟨_, (bS.alloc _).alloc _, by rw [World.size_alloc] at hown1; exact ((hown1.alloc _).alloc _).alloc _, by simp⟩, ((bF.alloc _).alloc _).alloc _, ((hB1.alloc (by omega) _).alloc (by simp; omega) _).alloc (by simp; omega) _⟩
    (fun x => { tmps := #[.string a, .string b, .func (.func gf) #[] #[], undef, undef, .pointer (some ⟨w.heap.size, 0, none⟩), .string ⟨#[]⟩, .pointer (some ⟨w1.heap.size, 0, none⟩), .int .u8 x.1.toNat, .int .u8 x.2.toNat, .string a, .int .i64 a.size, .string b, .int .i64 b.size, .int .i64 (max (a.size : Int) b.size), .slice (some ⟨w.heap.size + 1, 0, none⟩) 0 (max a.size b.size), .string a, .string b,
      .func (.func 134) #[] #[.pointer (some ⟨w1.heap.size + 1, 0, none⟩), .pointer (some ⟨w1.heap.size + 1 + 1, 0, none⟩)], .int .u8 x.1.toNat, .int .u8 x.2.toNat, undef, undef, undef, undef, undef, undef, undef, undef, undef, undef], defers := [] }) ?assign ?body ?done ?stop
  case assign =>
    intro l x W K hK
    gi_wp2
    exact hK
  case body =>
    rintro l pre x W ⟨⟨v, hv, hrow, hnil⟩, hF, hB⟩ hlt
    have hcv := hv.cell
    have hcF := hF.cell
    have hmx : Tryz.prog.follows .mixedOrders = true := by kernel_rfl
    have hd : 1 ≤ n - 1 - 1 := by omega
    gi_wp2
    have hpl : pre.length < max a.size b.size := by rw [hlen] at hlt; simpa using hlt
    have HL := Lib.hid hlen
    clear hlen hlt
    have hrow' : W.drew.ownsRow w.heap.size 5 1 v pre.length (pre.map fun p => Value.int .u8 (f p.1 p.2).toNat) := hrow
    have hszW : w.heap.size ≤ W.heap.size := hB.size
    have hvlt := hv.lt
    have hnil' : ∀ v', (v' = Value.slice none 0 0 ↔ v = .slice none 0 0 ∧ 1 = 0) → v' ≠ .slice none 0 0 := fun v' h e => by simpa using (h.1 e).2
    have hv' : Boxed W.drew w1.heap.size 79 v := hv
    have HN := Lib.hid hnil'
    clear hnil' hnil
    refine Rd.region_any hmx (by simp) (by rintro ⟨_, _, h⟩; exact h) ?_
    simp only [List.length_cons, List.length_nil, Nat.reduceAdd]
    refine wpAny_take (i := 2) (v := ?_) rfl (by kernel_rfl) (by kernel_rfl) (by kernel_rfl) (fun _ _ _ h => h) (Or.inl ⟨by rfl, by intro w; go_simp; with_reducible rfl⟩) ?_
    refine wpAny_take (i := 3) (v := ?_) rfl (by kernel_rfl) (by kernel_rfl) (by kernel_rfl) (fun _ _ _ h => h) (Or.inl ⟨by rfl, by intro w; go_simp; with_reducible rfl⟩) ?_
    refine wpAny_ready (rs := [0, 1]) (by kernel_rfl) (by simp) ?_
    refine (AllReady.cons rfl (fun K hK => ?_) (AllReady.cons rfl (fun K hK => ?_) AllReady.nil))
    · go_simp; refine hK _ _ ?_; clear hK K
      refine wpAny_ready (rs := [1]) (by kernel_rfl) (by simp) ?_
      refine AllReady.cons rfl (fun K hK => ?_) AllReady.nil
      go_simp; refine hK _ _ ?_; clear hK K
      refine wpAny_ready (rs := [4]) (by kernel_rfl) (by simp) ?_
      refine AllReady.cons rfl (fun K hK => ?_) AllReady.nil
      go_simp; refine (hof _ _ _).mono ?_; rintro e w' ⟨rfl, rfl⟩; refine hK _ _ ?_; clear hK K
      refine wpAny_ready (rs := [5]) (by kernel_rfl) (by simp) ?_
      refine AllReady.cons rfl (fun K hK => ?_) AllReady.nil
      go_simp; refine hK _ _ ?_; clear hK K
      refine wpAny_ready (rs := [6]) (by kernel_rfl) (by simp) ?_
      refine AllReady.cons rfl (fun K hK => ?_) AllReady.nil
      rw [if_pos (by simp [Region.wanted])]
      refine wp_append_own _ _ _ 79 rfl w.heap.size 5 i0 (.int .u8 0) 1 1 Tryz.underlying79 hi hz0 hz1 hz2 rfl (by decide) v pre.length _ rfl (hrow'.alloc _) ⟨W.heap.size, 0, none⟩ 1 1 [.int .u8 (f x.1 x.2).toNat] rfl rfl (cell_one_new _ _ _) (by simp [Value.oneCell']) (by unfold maxLen; omega) (by omega) (by simp; omega) ?_
      intro v' w2 hown' hgrow hnl
      have hnn := Lib.hid (HN.out v' hnl)
      clear hnl
      obtain ⟨g', cap', rfl⟩ := ownsRow_succ hown'
      obtain ⟨hv1, hv2, hr2, hk2, hb2⟩ := hv'.appended (by decide) hrow' hszW (by omega) hown' hgrow
      have hc1 := hv1.cell
      have hf1 := hv1.frozen
      refine hK _ _ ?_
      clear hK K
      refine wpAny_ready (rs := [7]) (by kernel_rfl) (by simp) ?_
      refine AllReady.cons rfl (fun K hK => ?_) AllReady.nil
      go_simp
      refine hK _ _ ?_
      clear hK K
      refine wpAny_done (by kernel_rfl) ?_ _
      refine ⟨((KeepsOthers.drew W).trans hk2).from _, ?_, ⟨⟨_, hv2, ?_, hnn.out⟩, ?_, hB.trans ⟨hb2.os, hb2.tape, hb2.output, hb2.size, hb2.block⟩⟩⟩
      · exact keepB_appended (W := W.drew) (by intro p hp; simp at hp; rcases hp with rfl | rfl <;> exact ⟨by simp, by simp <;> omega⟩) hrow' hgrow
      · simpa using hr2
      · exact keepB_appended (W := W.drew) (l := [(w.heap.size, 129, .func (.func gf) #[] #[])]) (by intro p hp; simp at hp; subst hp; exact ⟨by simp, by simp; omega⟩) hrow' hgrow (w.heap.size, 129, .func (.func gf) #[] #[]) (by simp) hF
    · go_simp; refine hK _ _ ?_; clear hK K
      refine wpAny_ready (rs := [0, 4]) (by kernel_rfl) (by simp) ?_
      refine (AllReady.cons rfl (fun K hK => ?_) (AllReady.cons rfl (fun K hK => ?_) AllReady.nil))
      · go_simp; refine hK _ _ ?_; clear hK K
        refine wpAny_ready (rs := [4]) (by kernel_rfl) (by simp) ?_
        refine AllReady.cons rfl (fun K hK => ?_) AllReady.nil
        go_simp; refine (hof _ _ _).mono ?_; rintro e w' ⟨rfl, rfl⟩; refine hK _ _ ?_; clear hK K
        refine wpAny_ready (rs := [5]) (by kernel_rfl) (by simp) ?_
        refine AllReady.cons rfl (fun K hK => ?_) AllReady.nil
        go_simp; refine hK _ _ ?_; clear hK K
        refine wpAny_ready (rs := [6]) (by kernel_rfl) (by simp) ?_
        refine AllReady.cons rfl (fun K hK => ?_) AllReady.nil
        rw [if_pos (by simp [Region.wanted])]
        refine wp_append_own _ _ _ 79 rfl w.heap.size 5 i0 (.int .u8 0) 1 1 Tryz.underlying79 hi hz0 hz1 hz2 rfl (by decide) v pre.length _ rfl (hrow'.alloc _) ⟨W.heap.size, 0, none⟩ 1 1 [.int .u8 (f x.1 x.2).toNat] rfl rfl (cell_one_new _ _ _) (by simp [Value.oneCell']) (by unfold maxLen; omega) (by omega) (by simp; omega) ?_
        intro v' w2 hown' hgrow hnl
        have hnn := Lib.hid (HN.out v' hnl)
        clear hnl
        obtain ⟨g', cap', rfl⟩ := ownsRow_succ hown'
        obtain ⟨hv1, hv2, hr2, hk2, hb2⟩ := hv'.appended (by decide) hrow' hszW (by omega) hown' hgrow
        have hc1 := hv1.cell
        have hf1 := hv1.frozen
        refine hK _ _ ?_
        clear hK K
        refine wpAny_ready (rs := [7]) (by kernel_rfl) (by simp) ?_
        refine AllReady.cons rfl (fun K hK => ?_) AllReady.nil
        go_simp
        refine hK _ _ ?_
        clear hK K
        refine wpAny_done (by kernel_rfl) ?_ _
        refine ⟨((KeepsOthers.drew W).trans hk2).from _, ?_, ⟨⟨_, hv2, ?_, hnn.out⟩, ?_, hB.trans ⟨hb2.os, hb2.tape, hb2.output, hb2.size, hb2.block⟩⟩⟩
        · exact keepB_appended (W := W.drew) (by intro p hp; simp at hp; rcases hp with rfl | rfl <;> exact ⟨by simp, by simp <;> omega⟩) hrow' hgrow
        · simpa using hr2
        · exact keepB_appended (W := W.drew) (l := [(w.heap.size, 129, .func (.func gf) #[] #[])]) (by intro p hp; simp at hp; subst hp; exact ⟨by simp, by simp; omega⟩) hrow' hgrow (w.heap.size, 129, .func (.func gf) #[] #[]) (by simp) hF
      · go_simp; refine (hof _ _ _).mono ?_; rintro e w' ⟨rfl, rfl⟩; refine hK _ _ ?_; clear hK K
        refine wpAny_ready (rs := [0, 5]) (by kernel_rfl) (by simp) ?_
        refine (AllReady.cons rfl (fun K hK => ?_) (AllReady.cons rfl (fun K hK => ?_) AllReady.nil))
        · go_simp; refine hK _ _ ?_; clear hK K
          refine wpAny_ready (rs := [5]) (by kernel_rfl) (by simp) ?_
          refine AllReady.cons rfl (fun K hK => ?_) AllReady.nil
          go_simp; refine hK _ _ ?_; clear hK K
          refine wpAny_ready (rs := [6]) (by kernel_rfl) (by simp) ?_
          refine AllReady.cons rfl (fun K hK => ?_) AllReady.nil
          rw [if_pos (by simp [Region.wanted])]
          refine wp_append_own _ _ _ 79 rfl w.heap.size 5 i0 (.int .u8 0) 1 1 Tryz.underlying79 hi hz0 hz1 hz2 rfl (by decide) v pre.length _ rfl (hrow'.alloc _) ⟨W.heap.size, 0, none⟩ 1 1 [.int .u8 (f x.1 x.2).toNat] rfl rfl (cell_one_new _ _ _) (by simp [Value.oneCell']) (by unfold maxLen; omega) (by omega) (by simp; omega) ?_
          intro v' w2 hown' hgrow hnl
          have hnn := Lib.hid (HN.out v' hnl)
          clear hnl
          obtain ⟨g', cap', rfl⟩ := ownsRow_succ hown'
          obtain ⟨hv1, hv2, hr2, hk2, hb2⟩ := hv'.appended (by decide) hrow' hszW (by omega) hown' hgrow
          have hc1 := hv1.cell
          have hf1 := hv1.frozen
          refine hK _ _ ?_
          clear hK K
          refine wpAny_ready (rs := [7]) (by kernel_rfl) (by simp) ?_
          refine AllReady.cons rfl (fun K hK => ?_) AllReady.nil
          go_simp
          refine hK _ _ ?_
          clear hK K
          refine wpAny_done (by kernel_rfl) ?_ _
          refine ⟨((KeepsOthers.drew W).trans hk2).from _, ?_, ⟨⟨_, hv2, ?_, hnn.out⟩, ?_, hB.trans ⟨hb2.os, hb2.tape, hb2.output, hb2.size, hb2.block⟩⟩⟩
          · exact keepB_appended (W := W.drew) (by intro p hp; simp at hp; rcases hp with rfl | rfl <;> exact ⟨by simp, by simp <;> omega⟩) hrow' hgrow
          · simpa using hr2
          · exact keepB_appended (W := W.drew) (l := [(w.heap.size, 129, .func (.func gf) #[] #[])]) (by intro p hp; simp at hp; subst hp; exact ⟨by simp, by simp; omega⟩) hrow' hgrow (w.heap.size, 129, .func (.func gf) #[] #[]) (by simp) hF
        · go_simp; refine hK _ _ ?_; clear hK K
          refine wpAny_ready (rs := [0]) (by kernel_rfl) (by simp) ?_
          refine AllReady.cons rfl (fun K hK => ?_) AllReady.nil
          go_simp; refine hK _ _ ?_; clear hK K
          refine wpAny_ready (rs := [6]) (by kernel_rfl) (by simp) ?_
          refine AllReady.cons rfl (fun K hK => ?_) AllReady.nil
          rw [if_pos (by simp [Region.wanted])]
          refine wp_append_own _ _ _ 79 rfl w.heap.size 5 i0 (.int .u8 0) 1 1 Tryz.underlying79 hi hz0 hz1 hz2 rfl (by decide) v pre.length _ rfl (hrow'.alloc _) ⟨W.heap.size, 0, none⟩ 1 1 [.int .u8 (f x.1 x.2).toNat] rfl rfl (cell_one_new _ _ _) (by simp [Value.oneCell']) (by unfold maxLen; omega) (by omega) (by simp; omega) ?_
          intro v' w2 hown' hgrow hnl
          have hnn := Lib.hid (HN.out v' hnl)
          clear hnl
          obtain ⟨g', cap', rfl⟩ := ownsRow_succ hown'
          obtain ⟨hv1, hv2, hr2, hk2, hb2⟩ := hv'.appended (by decide) hrow' hszW (by omega) hown' hgrow
          have hc1 := hv1.cell
          have hf1 := hv1.frozen
          refine hK _ _ ?_
          clear hK K
          refine wpAny_ready (rs := [7]) (by kernel_rfl) (by simp) ?_
          refine AllReady.cons rfl (fun K hK => ?_) AllReady.nil
          go_simp
          refine hK _ _ ?_
          clear hK K
          refine wpAny_done (by kernel_rfl) ?_ _
          refine ⟨((KeepsOthers.drew W).trans hk2).from _, ?_, ⟨⟨_, hv2, ?_, hnn.out⟩, ?_, hB.trans ⟨hb2.os, hb2.tape, hb2.output, hb2.size, hb2.block⟩⟩⟩
          · exact keepB_appended (W := W.drew) (by intro p hp; simp at hp; rcases hp with rfl | rfl <;> exact ⟨by simp, by simp <;> omega⟩) hrow' hgrow
          · simpa using hr2
          · exact keepB_appended (W := W.drew) (l := [(w.heap.size, 129, .func (.func gf) #[] #[])]) (by intro p hp; simp at hp; subst hp; exact ⟨by simp, by simp; omega⟩) hrow' hgrow (w.heap.size, 129, .func (.func gf) #[] #[]) (by simp) hF
  case done =>
    rintro D ys W hD rfl ⟨⟨v, hv, hrow, hnil⟩, hF, hB⟩ hK
    obtain ⟨g, cap, rfl, hgb, hgs, hcap1, hcap2, hcells⟩ := row_cells hrow hnil
    have hzl : (zipB f a.data.toList b.data.toList).length = (pairsL a.data.toList b.data.toList).length := by rw [hlen, zipB_length]
    have hz : ∀ i, i < (pairsL a.data.toList b.data.toList).length → W.cell? ⟨g, i, none⟩ = some (.int .u8 (gd (zipB f a.data.toList b.data.toList) i).toNat) := fun i hi => by
      refine hcells i _ ?_
      rw [hlen] at hi
      rw [gd_zipB f hf0]
      simp only [pairsL, List.map_map, List.getElem?_map, List.getElem?_range hi]
      rfl
    have hT := trimRight_any g _ cap _ W hzl hcap1 hcap2 hz
    have hll : (least (zipB f a.data.toList b.data.toList)).length ≤ (pairsL a.data.toList b.data.toList).length := by rw [← hzl]; exact least_length _
    have hconv : (convert 79 9 (.slice (some ⟨g, 0, none⟩) (least (zipB f a.data.toList b.data.toList)).length cap)).run Tryz.prog W = .ok (str (mk f a.data.toList b.data.toList)) W :=
      run_convert_bytes_back W 79 9 5 ⟨g, 0, none⟩ cap (least (zipB f a.data.toList b.data.toList)) Tryz.underlying79 Tryz.underlying5 Tryz.underlying9 (fun j hj => by
        rw [show (Addr.add ⟨g, 0, none⟩ j) = ⟨g, j, none⟩ by rw [Addr.add_lit, Nat.zero_add], hz j (by omega), ← gd_least, gd_lt hj])
    have hcv := hv.cell
    have hlm : (pairsL a.data.toList b.data.toList).length = max a.size b.size := by rw [hlen]; simp
    clear hz hcells hll hzl hrow hnil
    generalize (least (zipB f a.data.toList b.data.toList)).length = k at hT hconv
    rw [hlm] at hT hv hcv
    have HT := Lib.hid hT
    clear hT hlm hlen
    gi_wp2_with (refine ⟨trivial, ?_⟩; gi_at_call 123; refine (callsIn_wide.2 HT.out).mono ?_; rintro e w' ⟨rfl, rfl⟩)
    refine ⟨by simp, .inl ⟨_, _, rfl, run_takeDeferred hK, ?_⟩⟩
    exact ⟨_, results_tmp rfl _ _ _, rfl, hB.trans (belowK_b (w := w) (Nat.le_refl _) W D _ _ (by simp at hD; omega) hK rfl rfl)⟩
  case stop =>
    rintro D c pre W _ _ h _
    exact h.elim
theorem or_any (a b : ByteArray) (ha : a.size ≤ 140737488355328) (hb : b.size ≤ 140737488355328) (w : World) :
    Calls Tryz.prog 59 #[.string a, .string b] w fun e w' => e = .returned (str (mk bor a.data.toList b.data.toList)) ∧ Below w.heap.size w w' := by
  have h := callsIn_wide.1 (merge_in 6 (by omega) 103 bor (by decide) (enters_of Tryz.func103 (by kernel_rfl) rfl) or1 a b ha hb w)
  have H := Lib.hid h
  clear h
  go_enter Tryz.func59, Tryz.ntmps59
  go_wp2_with (go_at_call 102; refine H.out.mono ?_; rintro e w' ⟨rfl, hb⟩)
  go_ret
  exact ⟨rfl, hb⟩

theorem minus_any (a b : ByteArray) (ha : a.size ≤ 140737488355328) (hb : b.size ≤ 140737488355328) (w : World) :
    Calls Tryz.prog 60 #[.string a, .string b] w fun e w' => e = .returned (str (mk bsub a.data.toList b.data.toList)) ∧ Below w.heap.size w w' := by
  have h := callsIn_wide.1 (merge_in 6 (by omega) 104 bsub (by decide) (enters_of Tryz.func104 (by kernel_rfl) rfl) minus1 a b ha hb w)
  have H := Lib.hid h
  clear h
  go_enter Tryz.func60, Tryz.ntmps60
  go_wp2_with (go_at_call 102; refine H.out.mono ?_; rintro e w' ⟨rfl, hb⟩)
  go_ret
  exact ⟨rfl, hb⟩
end Go.Proofs.YtknfakaklmpboaaGreatDoor

