/-
  FilSj / FilSk / FilSl.
-/
import Derived.Test.YtfokdmijkniomaaGreatDoorS2
import Derived.Test.YtfokdmijkniomaaGreatDoorS3
namespace Go.Proofs.YtfokdmijkniomaaGreatDoor
open Go.RowKit Go Go.Maps

theorem drop_sub (s : ByteArray) : ∀ l : List Ent, (dropK Ent.name s l).Sublist l
  | [] => List.Sublist.refl _
  | y :: l => by
    rw [dropK]
    split
    · exact (drop_sub s l).cons _
    · exact (drop_sub s l).cons_cons _
theorem w64_link {T : List Nod} (hG : Good T) {x : Nod} (hm : x ∈ T) {rl : Int} (hl : x.links = rl) : RowKit.wrap64 (rl + 1) = rl + 1 := by
  have hb : 1 ≤ x.links ∧ x.links ≤ 3600 := by
    have hc := cnt_le_all hG.formed
    by_cases e : x.num = 1
    · obtain ⟨r, hr, _, h3⟩ := hG.formed.root
      have := hG.formed.rise.at hm
      rw [e, hr] at this
      cases this; omega
    · have := hG.formed.links x hm e
      have := hc x.num
      omega
  rw [hl] at hb
  simp [RowKit.wrap64]; omega
section
variable {tb : Nat} {lv : Value} {T : List Nod} {w w' : World}
theorem rnamePut_any (h : RTIs tb lv T w) (hT : RawN T) {p : Int} {x : Nod} (hx : nodeAt T p = some x) (hd : x.dir = true) {s : ByteArray} {k : Int} (hk : 1 ≤ k ∧ k ≤ 65535) (hs : NameOk s) (hn : lookE x.names s = none) (hl : x.names.length < 61) :
    Calls Tryz.prog 34 #[.pointer (some ⟨tb, 0, none⟩), .int .i64 p, .string s, .int .i64 k] w fun e w' => e = .returned (.tuple #[]) ∧ RLeft tb lv (namePut T p s k) w w' := by
  obtain ⟨hr, _, ho⟩ := hT.dir x (at_mem hx).1 hd
  have hN : namF s k (decide (k = 0)) x.names = insE s k x.names := by
    rw [decide_eq_false (by omega)]
    exact namF_ins hr (look_free hn)
  have hM : May kE (insE s k x.names) := may_of_rise (hr.ins s k) (by rw [ins_len hr hn]; omega) fun e he => by
    rcases mem_ins he with rfl | he
    · exact ⟨hs, hk⟩
    · exact ho e he
  have := rnamed_any h hT hx hd hN hM
  have e : namePut T p s k = putN { x with names := insE s k x.names } T := by unfold namePut; rw [hx]
  rw [e]
  exact this
theorem rnameDel_any (h : RTIs tb lv T w) (hT : RawN T) {p : Int} {x : Nod} (hx : nodeAt T p = some x) (hd : x.dir = true) (s : ByteArray) :
    Calls Tryz.prog 34 #[.pointer (some ⟨tb, 0, none⟩), .int .i64 p, .string s, .int .i64 0] w fun e w' => e = .returned (.tuple #[]) ∧ RLeft tb lv (nameDel T p s) w w' := by
  obtain ⟨hr, hl, ho⟩ := hT.dir x (at_mem hx).1 hd
  have hN : namF s 0 (decide ((0 : Int) = 0)) x.names = delE s x.names := by
    rw [decide_eq_true rfl]
    exact namF_del
  have hM : May kE (delE s x.names) := may_of_rise (hr.del s) (by
    have : (delE s x.names).length ≤ x.names.length := by
      unfold delE
      exact (List.Sublist.length_le (drop_sub s x.names))
    omega) fun e he => ho e (mem_del.1 he).1
  have := rnamed_any h hT hx hd hN hM
  have e : nameDel T p s = putN { x with names := delE s x.names } T := by unfold nameDel; rw [hx]
  rw [e]
  exact this
theorem links_cases {T : List Nod} (hG : Good T) {p q : ByteArray} {l m : List ByteArray} (hp : IsPath p l) (hq : IsPath q m) :
    (∃ e, e ≠ 0 ∧ getV T p = (zeroN, e) ∧ linkV T l m = (T, e)) ∨ ∃ x, nodeAt T x.num = some x ∧ x ∈ T ∧ getV T p = (told x, 0) ∧
      ((x.dir = true ∧ linkV T l m = (T, 143)) ∨ (x.dir = false ∧ ((∃ e, e ≠ 0 ∧ placeE T m = .error e ∧ linkV T l m = (T, e)) ∨
        ∃ k s u, placeE T m = .ok (k, s) ∧ nodeAt T k = some u ∧ u.dir = true ∧ lookE u.names s = none ∧ u.names.length < 60 ∧ NameOk s ∧ linkV T l m = (namePut (putN { x with links := x.links + 1 } T) k s x.num, 0)))) := by
  rcases get_find hG.formed hp with ⟨e, he, hg, hf⟩ | ⟨x, hx, hm, hg, hf, _⟩
  · refine .inl ⟨e, he, hg, ?_⟩
    unfold linkV fileE
    rw [hf]
  · refine .inr ⟨x, hx, hm, hg, ?_⟩
    unfold linkV fileE
    rw [hf]
    by_cases hd : x.dir = true
    · exact .inl ⟨hd, by simp [hd]⟩
    · have hd' : x.dir = false := by simpa using hd
      refine .inr ⟨hd', ?_⟩
      simp only [if_neg hd]
      cases hpl : placeE T m with
      | error e => exact .inl ⟨e, by have := place_err hpl; omega, rfl, rfl⟩
      | ok r =>
        obtain ⟨k, s⟩ := r
        obtain ⟨hms, hw, u, hu, hud, huk, hul⟩ := placeE_ok hpl
        refine .inr ⟨k, s, u, rfl, hu, hud, huk, hul, hq.1 s (by rw [hms]; simp), rfl⟩
set_option maxRecDepth 100000 in
set_option maxHeartbeats 16000000 in
theorem rlinks_any (h : RTIs tb lv T w) (hG : Good T) (c : Cmd) {l m : List ByteArray} (hp : IsPath c.path l) (hq : IsPath c.dest m) (hs : c.path.size ≤ 281474976710656) (hs2 : c.dest.size ≤ 281474976710656) :
    Calls Tryz.prog 31 #[.pointer (some ⟨tb, 0, none⟩), cmdV c] w fun e w' => e = .returned (.int .i64 (linkV T l m).2) ∧ RLeft tb lv (linkV T l m).1 w w' := by
  obtain ⟨ck, cp, ct, ca, cd⟩ := c
  simp only at *
  obtain ⟨w1, hw1⟩ : ∃ w1, w.alloc (CmdObj ⟨ck, cp, ct, ca, cd⟩) = w1 := ⟨_, rfl⟩
  have hB1 : Below w.heap.size w w1 := by rw [← hw1]; exact (Below.refl _ w).alloc (Nat.le_refl _) _
  have hc1 : CmdAt ⟨ck, cp, ct, ca, cd⟩ w.heap.size w1 := by rw [← hw1]; exact .new _ _
  obtain ⟨d0, d1, d2, d3, d4⟩ := hc1.cells
  simp only at d0 d1 d2 d3 d4
  unfold CmdObj at hw1
  unfold cmdV
  simp only at hw1 ⊢
  have CG := rget_any (h.later hB1) hG.formed hs
  rcases links_cases hG hp hq with ⟨E, hE, hg, hv⟩ | ⟨x, hx, hm, hg, hv⟩
  · as_aux_lemma =>
    rw [hg] at CG
    rw [hv]
    have he0 : (E != 0) = true := by simp [hE]
    unfold ndeV zeroN at CG
    simp only at CG ⊢
    clear hG hp hs hs2 hg hv hE hq
    go_enter Tryz.func31, Tryz.ntmps31
    go_wp2_with fail
    refine CG.mono ?_
    rintro e w2 ⟨rfl, hB2⟩
    obtain ⟨wA, x1, x2, x3, x4, hwA, ⟨k1, k2, k3, k4⟩, ⟨p1, p2, p3, p4⟩, ⟨r1, r2, r3, r4⟩, HN, hBB, hsz⟩ := nde_box ⟨0, false, 0, ⟨#[]⟩⟩ w2
    have HN := Lib.hid HN
    simp only at k1 k2 k3 k4
    have hB4 := hB2.trans (hBB.mono hB2.size)
    have HB4 := Lib.hid (hB1.trans (hB4.mono hB1.size))
    have HC4 := Lib.hid (hc1.later hB4)
    obtain ⟨e0, e1, e2, e3, e4⟩ := HC4.out.cells
    obtain ⟨c0, c1, c2, c3⟩ := HN.out.cells
    simp only at e0 e1 e2 e3 e4 c0 c1 c2 c3
    have HFIN := Lib.hid (RLeft.same h HB4.out)
    clear h hB1 hc1 hB2 hBB hsz CG hB4 d0 d1 d2 d3 d4
    go_wp2
    go_ret
    exact ⟨rfl, HFIN.out⟩
  · obtain ⟨⟨rn, rd, rl, rb⟩, hR⟩ : ∃ R, told x = R := ⟨_, rfl⟩
    rw [hg, hR] at CG
    have hrd : x.dir = rd := congrArg Nde.dir hR
    have hrl : x.links = rl := congrArg Nde.links hR
    have hrn : x.num = rn := congrArg Nde.num hR
    have HH := Lib.hid h
    have HGD := Lib.hid hG
    unfold ndeV at CG
    simp only at CG
    rcases hv with ⟨hxd, hv⟩ | ⟨hxd, ⟨E, hE, hpl, hv⟩ | ⟨k, s, u, hpl, hu, hud, huk, hul, hso, hv⟩⟩
    · obtain rfl : rd = true := hrd.symm.trans hxd
      as_aux_lemma =>
      rw [hv]
      simp only
      clear hG hp hs hs2 hg hv hR hx hm hrd hxd hrl hrn hq
      go_enter Tryz.func31, Tryz.ntmps31
      go_wp2_with fail
      refine CG.mono ?_
      rintro e w2 ⟨rfl, hB2⟩
      obtain ⟨wA, x1, x2, x3, x4, hwA, ⟨k1, k2, k3, k4⟩, ⟨p1, p2, p3, p4⟩, ⟨r1, r2, r3, r4⟩, HN, hBB, hsz⟩ := nde_box ⟨rn, true, rl, rb⟩ w2
      have HN := Lib.hid HN
      simp only at k1 k2 k3 k4
      have hB4 := hB2.trans (hBB.mono hB2.size)
      have HB4 := Lib.hid (hB1.trans (hB4.mono hB1.size))
      have HC4 := Lib.hid (hc1.later hB4)
      obtain ⟨e0, e1, e2, e3, e4⟩ := HC4.out.cells
      obtain ⟨c0, c1, c2, c3⟩ := HN.out.cells
      simp only at e0 e1 e2 e3 e4 c0 c1 c2 c3
      have HFIN := Lib.hid (RLeft.same h HB4.out)
      clear h hB1 hc1 hB2 hBB hsz CG hB4 d0 d1 d2 d3 d4
      go_wp2
      go_ret
      exact ⟨rfl, HFIN.out⟩
    · obtain rfl : rd = false := hrd.symm.trans hxd
      as_aux_lemma =>
      rw [hv]
      simp only
      have he0 : (E != 0) = true := by simp [hE]
      have CR := fun (W : World) (hB : Below w.heap.size w W) => rroom_any (HH.out.later hB) HGD.out.formed hs2 hq
      rw [hpl] at CR
      unfold RRoomE ndeV zeroN at CR
      simp only at CR
      clear hG hp hs hs2 hg hv hR hx hm hrd hxd hrl hrn hq hE hpl
      go_enter Tryz.func31, Tryz.ntmps31
      go_wp2_with fail
      refine CG.mono ?_
      rintro e w2 ⟨rfl, hB2⟩
      obtain ⟨wA, x1, x2, x3, x4, hwA, ⟨k1, k2, k3, k4⟩, ⟨p1, p2, p3, p4⟩, ⟨r1, r2, r3, r4⟩, HN, hBB, hsz⟩ := nde_box ⟨rn, false, rl, rb⟩ w2
      have HN := Lib.hid HN
      simp only at k1 k2 k3 k4
      have hB4 := hB2.trans (hBB.mono hB2.size)
      have HB4 := Lib.hid (hB1.trans (hB4.mono hB1.size))
      have HC4 := Lib.hid (hc1.later hB4)
      obtain ⟨e0, e1, e2, e3, e4⟩ := HC4.out.cells
      obtain ⟨c0, c1, c2, c3⟩ := HN.out.cells
      simp only at e0 e1 e2 e3 e4 c0 c1 c2 c3
      clear hB1 hc1 hB2 hBB hsz CG hB4 d0 d1 d2 d3 d4
      go_wp2_with fail
      refine (CR _ HB4.out).mono ?_
      rintro e w6 ⟨rfl, hB6⟩
      obtain ⟨wC, z1, z2, z3, z4, hwC, ⟨j1, j2, j3, j4⟩, ⟨o1, o2, o3, o4⟩, ⟨i1, i2, i3, i4⟩, HM, hBC, hsz2⟩ := nde_box ⟨0, false, 0, ⟨#[]⟩⟩ w6
      have HM := Lib.hid HM
      simp only at j1 j2 j3 j4
      have HFIN := Lib.hid (RLeft.same h (HB4.out.trans ((hB6.trans (hBC.mono hB6.size)).mono HB4.out.size)))
      clear h hB6 hBC hsz2 CR
      go_wp2
      go_ret
      exact ⟨rfl, HFIN.out⟩
    · obtain rfl : rd = false := hrd.symm.trans hxd
      as_aux_lemma =>
      rw [hv]
      simp only
      have CR := fun (W : World) (hB : Below w.heap.size w W) => rroom_any (HH.out.later hB) HGD.out.formed hs2 hq
      rw [hpl] at CR
      unfold RRoomE at CR
      simp only [hu] at CR
      obtain ⟨⟨vn, vd, vl, vb⟩, hU⟩ : ∃ R, told u = R := ⟨_, rfl⟩
      have hvn : vn = k := by rw [← (at_mem hu).2]; exact (congrArg Nde.num hU).symm
      have HPL := Lib.hid (show ∀ (W : World) e, (∃ y, some u = some y ∧ e = Ending.returned (.tuple #[ndeV (told y), .string s, .int .i64 0])) → e = .returned (.tuple #[.agg #[.int .i64 k, .bool vd, .int .i64 vl, .string vb], .string s, .int .i64 0]) from fun W e ⟨y, hy, he⟩ => by
        cases hy
        rw [he, hU, hvn]; rfl)
      obtain ⟨T1, hT1⟩ : ∃ T1, putN { x with links := x.links + 1 } T = T1 := ⟨_, rfl⟩
      have hne : k ≠ x.num := fun e => by
        rw [e, hx] at hu
        cases hu
        rw [hxd] at hud; cases hud
      have hu1 : nodeAt T1 k = some u := by rw [← hT1, at_put, if_neg (fun e => hne e.symm)]; exact hu
      have hraw : RawN T1 := by
        rw [← hT1]
        refine hG.formed.rawN.put (fun hd => by simp only at hd; rw [hxd] at hd; cases hd) ?_
        rw [lenN_put (x := { x with links := x.links + 1 }) hG.formed.rise hx]
        have := hG.formed.len; omega
      have CPUT := fun (W : World) (hB : Below w.heap.size w W) => rput_any (HH.out.later hB) HGD.out.formed.rise (by have := HGD.out.formed.len; omega) (fun e => by rw [e] at hm; cases hm) { x with links := x.links + 1 }
      have hnum := hG.formed.num x hm
      have CNM := fun (W : World) (lv1 : Value) (h1 : RTIs tb lv1 T1 W) => rnamePut_any h1 hraw hu1 hud (k := x.num) hnum hso huk (by omega)
      rw [hrn] at CNM
      have hton : told { x with links := x.links + 1 } = ⟨rn, false, rl + 1, rb⟩ := by
        have e3 : toldB x = rb := congrArg Nde.data hR
        unfold toldB at e3
        rw [hxd] at e3
        unfold told toldB
        simp only [hxd, hrn, hrl]
        rw [← e3]
      rw [hton] at CPUT
      rw [hT1] at CPUT
      rw [hT1, hrn]
      unfold ndeV at CPUT
      simp only at CPUT
      have hlk := nde_in HGD.out (told x) (List.mem_map.2 ⟨x, hm, rfl⟩)
      have hwl : RowKit.wrap64 (rl + 1) = rl + 1 := w64_link HGD.out hm hrl
      clear hG hp hs hs2 hg hv hR hx hm hrd hxd hrl hrn hq hpl hu hud huk hul hso hU hvn hT1 hne hu1 hraw hnum hton hlk
      go_enter Tryz.func31, Tryz.ntmps31
      go_wp2_with fail
      refine CG.mono ?_
      rintro e w2 ⟨rfl, hB2⟩
      obtain ⟨wA, x1, x2, x3, x4, hwA, ⟨k1, k2, k3, k4⟩, ⟨p1, p2, p3, p4⟩, ⟨r1, r2, r3, r4⟩, HN, hBB, hsz⟩ := nde_box ⟨rn, false, rl, rb⟩ w2
      have HN := Lib.hid HN
      simp only at k1 k2 k3 k4
      have hB4 := hB2.trans (hBB.mono hB2.size)
      have HB4 := Lib.hid (hB1.trans (hB4.mono hB1.size))
      have HC4 := Lib.hid (hc1.later hB4)
      obtain ⟨e0, e1, e2, e3, e4⟩ := HC4.out.cells
      obtain ⟨c0, c1, c2, c3⟩ := HN.out.cells
      simp only at e0 e1 e2 e3 e4 c0 c1 c2 c3
      have HW2 := Lib.hid (show w.heap.size ≤ w2.heap.size ∧ w2.heap.size < x4.heap.size from ⟨Nat.le_trans hB1.size hB2.size, HN.out.lt'⟩)
      clear hB1 hc1 hB2 hBB hsz CG hB4 d0 d1 d2 d3 d4
      go_wp2_with fail
      refine (CR _ HB4.out).mono ?_
      rintro e w6 ⟨he6, hB6⟩
      obtain rfl := HPL.out w6 e he6
      clear he6
      obtain ⟨wC, z1, z2, z3, z4, hwC, ⟨j1, j2, j3, j4⟩, ⟨o1, o2, o3, o4⟩, ⟨i1, i2, i3, i4⟩, HM, hBC, hsz2⟩ := nde_box ⟨k, vd, vl, vb⟩ w6
      have HM := Lib.hid HM
      simp only at j1 j2 j3 j4
      have hB8 := hB6.trans (hBC.mono hB6.size)
      have HN8 := Lib.hid (HN.out.later hB8)
      have HB8 := Lib.hid (HB4.out.trans (hB8.mono HB4.out.size))
      have HW6 := Lib.hid (show w2.heap.size ≠ w6.heap.size ∧ w.heap.size ≤ w6.heap.size from ⟨by have := HW2.out; have := hB6.size; omega, Nat.le_trans HB4.out.size hB6.size⟩)
      obtain ⟨n0, n1, n2, n3⟩ := HN8.out.cells
      simp only at n0 n1 n2 n3
      have f2 := HN8.out.fr 2
      obtain ⟨w9, hw9⟩ : ∃ w9, z4.setCell ⟨w2.heap.size, 2, none⟩ (.int .i64 (rl + 1)) = w9 := ⟨_, rfl⟩
      have S9 : Stir (fun i => i = w2.heap.size) z4 w9 := by rw [← hw9]; exact (Stir.refl (fun i => i = w2.heap.size) z4).set (.inl rfl) _
      have n9 : NdeAt ⟨rn, false, rl + 1, rb⟩ w2.heap.size w9 := ⟨by rw [← hw9, heap_set HN8.out.obj]; rfl⟩
      have HM9 := Lib.hid (HM.out.keep S9 (fun e => HW6.out.1 e.symm))
      have HB9 := Lib.hid (((Stir.of_below (F := fun i => i = w2.heap.size) HB8.out).trans S9 (fun i hi => .inl hi)).below (B := w.heap.size) (fun i hi => by rw [hi]; exact HW2.out.1) (Nat.le_refl _))
      obtain ⟨t0, t1, t2, t3⟩ := n9.cells
      simp only at t0 t1 t2 t3
      have HN9 := Lib.hid n9
      have CP := CPUT w9 HB9.out
      clear hB6 hBC hsz2 CR hB8 S9 n9 CPUT h e0 e1 e2 e3 e4
      go_wp2_with fail
      refine CP.mono ?_
      rintro e w10 ⟨rfl, h10⟩
      obtain ⟨lv1, hr1, hs10, hf1⟩ := h10
      have ht9 := (HH.out.later HB9.out).lt
      have htw := HH.out.lt
      have HN10 := Lib.hid (HN9.out.keep hs10 (by have := HW2.out; omega))
      have HM10 := Lib.hid (HM9.out.keep hs10 (by have := HW6.out; omega))
      obtain ⟨y0, -, -, -⟩ := HN10.out.cells
      obtain ⟨m0, -, -, -⟩ := HM10.out.cells
      simp only at y0 m0
      have CN := CNM w10 lv1 hr1
      have HL := Lib.hid (And.intro hs10 hf1)
      clear CP CNM hr1 hs10 hf1 t0 t1 t2 t3
      go_wp2_with fail
      refine CN.mono ?_
      rintro e w11 ⟨rfl, h11⟩
      have HFIN := Lib.hid (RLeft.start HB9.out (RLeft.trans HL.out.2 HL.out.1 h11))
      clear CN h11
      go_wp2
      go_ret
      exact ⟨rfl, HFIN.out⟩

end
end Go.Proofs.YtfokdmijkniomaaGreatDoor

namespace Go.Proofs.YtfokdmijkniomaaGreatDoor
open Go.RowKit Go Go.Maps

theorem num_up2 {j : Nat} (h : RowKit.wrap64 (2 + (j : Int) + 1) = 2 + (j : Int) + 1) : Value.int .i64 (RowKit.wrap64 (2 + (j : Int) + 1)) = .int .i64 (2 + ((j + 1 : Nat) : Int)) := by
  rw [h]; clear h; congr 1
theorem num_up3 {j : Nat} : Value.int .i64 (2 + (j : Int) + 1) = .int .i64 (2 + ((j + 1 : Nat) : Int)) := by congr 1
theorem meas_w {j n : Nat} {u v : Value} (h : j < n) (hw : RowKit.wrap64 (2 + (j : Int) + 1) = 2 + (j : Int) + 1) (hv : v = .int .i64 (RowKit.wrap64 (2 + (j : Int) + 1))) (hu : u = .int .i64 (2 + (j : Int))) : n + 2 - (intOf v).toNat < n + 2 - (intOf u).toNat := by
  subst hv; subst hu
  rw [intOf_int, intOf_int, hw]
  clear hw
  omega
theorem meas_x {j n : Nat} {u v : Value} (h : j < n) (hv : v = .int .i64 (2 + (j : Int) + 1)) (hu : u = .int .i64 (2 + (j : Int))) : n + 2 - (intOf v).toNat < n + 2 - (intOf u).toNat := by
  subst hv; subst hu
  rw [intOf_int, intOf_int]
  omega
section
variable {tb : Nat} {lv : Value} {T : List Nod} {w w' : World}
theorem makes_cases {T : List Nod} {q : ByteArray} {m : List ByteArray} (hq : IsPath q m) (dir : Bool) :
    (∃ e, e ≠ 0 ∧ placeE T m = .error e ∧ makeV T m dir = (T, e)) ∨
      ∃ k s u, placeE T m = .ok (k, s) ∧ nodeAt T k = some u ∧ u.dir = true ∧ lookE u.names s = none ∧ u.names.length < 60 ∧ NameOk s ∧ makeV T m dir = if 60 ≤ T.length then (T, 145) else (namePut (putN ⟨freeV T, dir, 1, ⟨#[]⟩, []⟩ T) k s (freeV T), 0) := by
  unfold makeV
  cases hpl : placeE T m with
  | error e => exact .inl ⟨e, by have := place_err hpl; omega, rfl, rfl⟩
  | ok r =>
    obtain ⟨k, s⟩ := r
    obtain ⟨hms, hw, u, hu, hud, huk, hul⟩ := placeE_ok hpl
    exact .inr ⟨k, s, u, rfl, hu, hud, huk, hul, hq.1 s (by rw [hms]; simp), rfl⟩
theorem told_new (n : Int) (dir : Bool) : told ⟨n, dir, 1, ⟨#[]⟩, []⟩ = ⟨n, dir, 1, if dir = true then ⟨#[0]⟩ else ⟨#[]⟩⟩ := by
  cases dir
  · rfl
  · kernel_rfl
set_option maxRecDepth 100000 in
set_option maxHeartbeats 16000000 in
theorem rmakes_any (h : RTIs tb lv T w) (hG : Good T) (c : Cmd) {m : List ByteArray} (hq : IsPath c.path m) (hs : c.path.size ≤ 281474976710656) {dir : Bool} (hk : c.kind = if dir = true then 1 else 0) :
    Calls Tryz.prog 29 #[.pointer (some ⟨tb, 0, none⟩), cmdV c] w fun e w' => e = .returned (.int .i64 (makeV T m dir).2) ∧ RLeft tb lv (makeV T m dir).1 w w' := by
  obtain ⟨ck, cp, ct, ca, cd⟩ := c
  simp only at *
  obtain ⟨w1, hw1⟩ : ∃ w1, w.alloc (CmdObj ⟨ck, cp, ct, ca, cd⟩) = w1 := ⟨_, rfl⟩
  have hB1 : Below w.heap.size w w1 := by rw [← hw1]; exact (Below.refl _ w).alloc (Nat.le_refl _) _
  have hc1 : CmdAt ⟨ck, cp, ct, ca, cd⟩ w.heap.size w1 := by rw [← hw1]; exact .new _ _
  obtain ⟨d0, d1, d2, d3, d4⟩ := hc1.cells
  simp only at d0 d1 d2 d3 d4
  unfold CmdObj at hw1
  unfold cmdV
  simp only at hw1 ⊢
  have CR := rroom_any (h.later hB1) hG.formed hs hq
  rcases makes_cases (T := T) hq dir with ⟨E, hE, hpl, hv⟩ | ⟨k, s, u, hpl, hu, hud, huk, hul, hso, hv⟩
  · as_aux_lemma =>
    rw [hpl] at CR
    rw [hv]
    have he0 : (E != 0) = true := by simp [hE]
    unfold RRoomE ndeV zeroN at CR
    simp only at CR ⊢
    clear hG hs hv hE hq hk hpl
    go_enter Tryz.func29, Tryz.ntmps29
    go_wp2_with fail
    refine CR.mono ?_
    rintro e w2 ⟨rfl, hB2⟩
    obtain ⟨wA, x1, x2, x3, x4, hwA, ⟨k1, k2, k3, k4⟩, ⟨p1, p2, p3, p4⟩, ⟨r1, r2, r3, r4⟩, HN, hBB, hsz⟩ := nde_box ⟨0, false, 0, ⟨#[]⟩⟩ w2
    have HN := Lib.hid HN
    simp only at k1 k2 k3 k4
    have HFIN := Lib.hid (RLeft.same h (hB1.trans ((hB2.trans (hBB.mono hB2.size)).mono hB1.size)))
    clear h hB1 hc1 hB2 hBB hsz CR d0 d1 d2 d3 d4
    go_wp2
    go_ret
    exact ⟨rfl, HFIN.out⟩
  · rw [hpl] at CR
    unfold RRoomE at CR
    simp only [hu] at CR
    obtain ⟨⟨vn, vd, vl, vb⟩, hU⟩ : ∃ R, told u = R := ⟨_, rfl⟩
    have hvn : vn = k := by rw [← (at_mem hu).2]; exact (congrArg Nde.num hU).symm
    have HPL := Lib.hid (show ∀ (W : World) e, (∃ y, some u = some y ∧ e = Ending.returned (.tuple #[ndeV (told y), .string s, .int .i64 0])) → e = .returned (.tuple #[.agg #[.int .i64 k, .bool vd, .int .i64 vl, .string vb], .string s, .int .i64 0]) from fun W e ⟨y, hy, he⟩ => by
      cases hy
      rw [he, hU, hvn]; rfl)
    have HH := Lib.hid h
    have HGD := Lib.hid hG
    obtain ⟨a, cap, rfl, hla⟩ := h.list
    rw [tolds_len] at h HH ⊢
    have HX := Lib.hid (fun (W : World) (hB : Below w.heap.size w W) => show W.cell? ⟨tb, 0, none⟩ = some (.slice a T.length cap) from RTObj.c0 (HH.out.later hB).obj)
    by_cases h60 : 60 ≤ T.length
    · as_aux_lemma =>
      rw [hv, if_pos h60]
      simp only
      have h6 : ((T.length : Nat) : Int) ≥ 60 := by omega
      clear hG hs hv hq hk hpl hu hud huk hul hso hU hvn hla h60
      go_enter Tryz.func29, Tryz.ntmps29
      go_wp2_with fail
      refine CR.mono ?_
      rintro e w2 ⟨he2, hB2⟩
      obtain rfl := HPL.out w2 e he2
      clear he2
      obtain ⟨wA, x1, x2, x3, x4, hwA, ⟨k1, k2, k3, k4⟩, ⟨p1, p2, p3, p4⟩, ⟨r1, r2, r3, r4⟩, HN, hBB, hsz⟩ := nde_box ⟨k, vd, vl, vb⟩ w2
      have HN := Lib.hid HN
      simp only at k1 k2 k3 k4
      have hB4 := hB1.trans ((hB2.trans (hBB.mono hB2.size)).mono hB1.size)
      have q0 := HX.out x4 hB4
      have HFIN := Lib.hid (RLeft.same HH.out hB4)
      clear h hB1 hc1 hB2 hBB hsz CR d0 d1 d2 d3 d4 hB4
      go_wp2
      go_ret
      exact ⟨rfl, HFIN.out⟩
    · rw [hv, if_neg h60]
      simp only
      have h6 : ¬ ((T.length : Nat) : Int) ≥ 60 := by omega
      have hfree := free_is hG.formed.rise
      have hfle := free_le hG.formed.rise
      obtain ⟨T1, hT1⟩ : ∃ T1, putN ⟨freeV T, dir, 1, ⟨#[]⟩, []⟩ T = T1 := ⟨_, rfl⟩
      have hne : k ≠ freeV T := fun e => by
        rw [e, hfree.none] at hu
        cases hu
      have hu1 : nodeAt T1 k = some u := by rw [← hT1, at_put, if_neg (fun e => hne e.symm)]; exact hu
      have hraw : RawN T1 := by
        rw [← hT1]
        refine hG.formed.rawN.put (fun _ => ⟨List.Pairwise.nil, by simp, fun e he => by cases he⟩) ?_
        rw [lenN_new (x := ⟨freeV T, dir, 1, ⟨#[]⟩, []⟩) hG.formed.rise hfree.none]
        omega
      have CPUT := fun (W : World) (hB : Below w.heap.size w W) => rput_any (HH.out.later hB) HGD.out.formed.rise (by have := HGD.out.formed.len; omega) (fun e => by rw [e] at hu; cases hu) ⟨freeV T, dir, 1, ⟨#[]⟩, []⟩
      have hfn : 1 ≤ freeV T ∧ freeV T ≤ 65535 := ⟨by have := hfree.two; omega, by omega⟩
      have CNM := fun (W : World) (lv1 : Value) (h1 : RTIs tb lv1 T1 W) => rnamePut_any h1 hraw hu1 hud (k := freeV T) hfn hso huk (by omega)
      have CNODE := fun (W : World) (hB : Below w.heap.size w W) (n : Int) => rnode_any (w := W) (HH.out.later hB).obj (HH.out.later hB).list (by rw [tolds_len]; omega) n
      rw [told_new, hT1] at CPUT
      rw [hT1]
      obtain ⟨fr, hfr⟩ : ∃ f : Nat, freeV T = 2 + f := ⟨(freeV T - 2).toNat, by have := hfree.two; omega⟩
      have HFR := Lib.hid (show ∀ j : Nat, j < fr → ∃ i : Nat, idxF (2 + (j : Int)) (tolds T) 0 = i from fun j hj => by
        obtain ⟨y, hy⟩ := Option.isSome_iff_exists.1 (hfree.least (2 + (j : Int)) (by omega) (by omega))
        obtain ⟨i, _, _, hi⟩ := idx_at hy
        exact ⟨i, hi⟩)
      have HFN := Lib.hid (show idxF (2 + (fr : Int)) (tolds T) 0 = -1 from by
        rcases node_idx T (2 + (fr : Int)) with ⟨_, h2⟩ | ⟨i, hi, h1, _⟩
        · exact h2
        · rw [← hfr, hfree.none] at h1; cases h1)
      have hfr62 : fr ≤ 60 := by omega
      rw [hfr] at CPUT CNM ⊢
      obtain ⟨X, hX⟩ : ∃ X : ByteArray, (if dir = true then (⟨#[0]⟩ : ByteArray) else ⟨#[]⟩) = X := ⟨_, rfl⟩
      rw [hX] at CPUT
      unfold ndeV at CPUT
      simp only at CPUT
      have HK := Lib.hid hk
      have HXX := Lib.hid hX
      clear hG hs hv hq hk hpl hu hud huk hul hso hU hvn hT1 hne hu1 hraw hfn hla hfree hfle h60 hX hfr
      go_enter Tryz.func29, Tryz.ntmps29
      go_wp2_with fail
      refine CR.mono ?_
      rintro e w2 ⟨he2, hB2⟩
      obtain rfl := HPL.out w2 e he2
      clear he2
      obtain ⟨wA, x1, x2, x3, x4, hwA, ⟨k1, k2, k3, k4⟩, ⟨p1, p2, p3, p4⟩, ⟨r1, r2, r3, r4⟩, HN, hBB, hsz⟩ := nde_box ⟨k, vd, vl, vb⟩ w2
      have HN := Lib.hid HN
      simp only at k1 k2 k3 k4
      have hB4' := hB2.trans (hBB.mono hB2.size)
      have hB4 := hB1.trans (hB4'.mono hB1.size)
      have q0 := HX.out x4 hB4
      have HC4 := Lib.hid (hc1.later hB4')
      have HB4 := Lib.hid hB4
      have HW2 := Lib.hid (show w.heap.size ≤ w2.heap.size from Nat.le_trans hB1.size hB2.size)
      clear h hB1 hc1 hB2 hBB hsz CR d0 d1 d2 d3 d4 hB4 hB4'
      go_wp2
      clear q0
      go_loopw [8] (fun n wr => ∃ j : Nat, j ≤ fr ∧ n = .int .i64 (2 + (j : Int)) ∧ Hid (Below x4.heap.size x4 wr)) (fun n _ => fr + 2 - (intOf n).toNat)
      case atStart => exact ⟨0, Nat.zero_le _, rfl, Lib.hid (Below.refl _ _)⟩
      case round =>
        obtain ⟨j, hj, rfl, HBx⟩ := hrel
        have HBX := Lib.hid (HB4.out.trans (HBx.out.mono HB4.out.size))
        by_cases hlt : j < fr
        · as_aux_lemma =>
          obtain ⟨i, hi⟩ := HFR.out j hlt
          have CN := CNODE wr HBX.out (2 + (j : Int))
          rw [hi] at CN
          have hi0 : (i : Int) ≥ 0 := by omega
          have hi1 : (0 : Int) ≤ (i : Int) := by omega
          have HLT := Lib.hid hlt
          have HW3 := Lib.hid (show RowKit.wrap64 (2 + (j : Int) + 1) = 2 + (j : Int) + 1 from by rw [show 2 + (j : Int) + 1 = ((j + 2 : Nat) : Int) + 1 by omega]; exact w64_cnt (by omega) (by omega))
          have hw3 := HW3.out
          clear hi hlt CNODE
          go_wp2_with fail
          refine CN.mono ?_
          rintro e w5 ⟨rfl, hB5⟩
          have HB5 := Lib.hid (HBx.out.trans (hB5.mono HBx.out.size))
          clear CN hB5
          go_wp2
          go_roundw
          case rel => exact ⟨j + 1, HLT.out, (by first | exact num_up2 hw3 | exact num_up3), HB5⟩
          case measure => first | exact meas_w HLT.out hw3 rfl rfl | exact meas_x HLT.out rfl rfl
        · have hje : j = fr := by omega
          subst hje
          have CN := CNODE wr HBX.out (2 + (j : Int))
          rw [HFN.out] at CN
          clear hlt CNODE HFR
          go_wp2_with fail
          refine CN.mono ?_
          rintro e w5 ⟨rfl, hB5⟩
          have hB54 := HBx.out.trans (hB5.mono HBx.out.size)
          have HC5 := Lib.hid (HC4.out.later hB54)
          have HN5 := Lib.hid (HN.out.later hB54)
          have HB5 := Lib.hid (HB4.out.trans (hB54.mono HB4.out.size))
          clear CN hB5
          cases dir with
          | false => as_aux_lemma =>
            obtain rfl : ck = 0 := by simpa using HK.out
            obtain rfl : X = ⟨#[]⟩ := by simpa using HXX.out.symm
            obtain ⟨wC, z1, z2, z3, z4, hwC, ⟨j1, j2, j3, j4⟩, ⟨o1, o2, o3, o4⟩, ⟨i1, i2, i3, i4⟩, HM, hBC, hsz2⟩ := nde_box ⟨2 + (j : Int), false, 1, ⟨#[]⟩⟩ w5
            have HM := Lib.hid HM
            simp only at j1 j2 j3 j4
            have hB7 := HB5.out.trans (hBC.mono HB5.out.size)
            have CP := CPUT z4 hB7
            obtain ⟨n0, n1, n2, n3⟩ := HM.out.cells
            simp only at n0 n1 n2 n3
            obtain ⟨e0, -, -, -, -⟩ := (HC5.out.later hBC).cells
            simp only at e0
            have HN7 := Lib.hid (HN5.out.later hBC)
            have HB7 := Lib.hid hB7
            have HW5 := Lib.hid (show w2.heap.size < w5.heap.size from HN5.out.lt')
            clear hBC hsz2 hB7 hB54 CPUT
            go_wp2_with fail
            refine CP.mono ?_
            rintro e w10 ⟨rfl, h10⟩
            obtain ⟨lv1, hr1, hs10, hf1⟩ := h10
            have ht9 := (HH.out.later HB7.out).lt
            have htw := HH.out.lt
            have HN10 := Lib.hid (HN7.out.keep hs10 (by have := HW2.out; omega))
            obtain ⟨y0, -, -, -⟩ := HN10.out.cells
            simp only at y0
            have CN := CNM w10 lv1 hr1
            have HL := Lib.hid (And.intro hs10 hf1)
            clear CP CNM hr1 hs10 hf1 n0 n1 n2 n3
            go_wp2_with fail
            refine CN.mono ?_
            rintro e w11 ⟨rfl, h11⟩
            have HFIN := Lib.hid (RLeft.start HB7.out (RLeft.trans HL.out.2 HL.out.1 h11))
            clear CN h11
            go_wp2
            go_ret
            exact ⟨rfl, HFIN.out⟩
          | true => as_aux_lemma =>
            obtain rfl : ck = 1 := by simpa using HK.out
            obtain rfl : X = ⟨#[0]⟩ := by simpa using HXX.out.symm
            obtain ⟨wC, z1, z2, z3, z4, hwC, ⟨j1, j2, j3, j4⟩, ⟨o1, o2, o3, o4⟩, ⟨i1, i2, i3, i4⟩, HM, hBC, hsz2⟩ := nde_box ⟨2 + (j : Int), false, 1, ⟨#[]⟩⟩ w5
            have HM := Lib.hid HM
            simp only at j1 j2 j3 j4
            have hB7 := HB5.out.trans (hBC.mono HB5.out.size)
            obtain ⟨e0, -, -, -, -⟩ := (HC5.out.later hBC).cells
            simp only at e0
            have g1 := HM.out.fr 1
            have b1 := HM.out.cells.2.1
            simp only at b1
            obtain ⟨y1, hy1⟩ : ∃ y, z4.setCell ⟨w5.heap.size, 1, none⟩ (.bool true) = y := ⟨_, rfl⟩
            have m1 : NdeAt ⟨2 + (j : Int), true, 1, ⟨#[]⟩⟩ w5.heap.size y1 := ⟨by rw [← hy1, heap_set HM.out.obj]; rfl⟩
            have g3 := m1.fr 3
            have b3 := m1.cells.2.2.2
            simp only at b3
            obtain ⟨y2, hy2⟩ : ∃ y, y1.setCell ⟨w5.heap.size, 3, none⟩ (.string ⟨#[0]⟩) = y := ⟨_, rfl⟩
            have m2 : NdeAt ⟨2 + (j : Int), true, 1, ⟨#[0]⟩⟩ w5.heap.size y2 := ⟨by rw [← hy2, heap_set m1.obj]; rfl⟩
            have S2 : Stir (fun i => i = w5.heap.size) z4 y2 := by rw [← hy2, ← hy1]; exact ((Stir.refl (fun i => i = w5.heap.size) z4).set (.inl rfl) _).set (.inl rfl) _
            have hB8 : Below w.heap.size w y2 := ((Stir.of_below (F := fun i => i = w5.heap.size) hB7).trans S2 (fun i hi => .inl hi)).below (B := w.heap.size) (fun i hi => by rw [hi]; exact HB5.out.size) (Nat.le_refl _)
            have CP := CPUT y2 hB8
            obtain ⟨n0, n1, n2, n3⟩ := m2.cells
            simp only at n0 n1 n2 n3
            have HW5 := Lib.hid (show w2.heap.size < w5.heap.size from HN5.out.lt')
            have HN7 := Lib.hid ((HN5.out.later hBC).keep S2 (by have := HW5.out; omega))
            have HB7 := Lib.hid hB8
            clear hBC hsz2 hB7 hB54 CPUT m1 m2 S2 hB8
            go_wp2_with fail
            refine CP.mono ?_
            rintro e w10 ⟨rfl, h10⟩
            obtain ⟨lv1, hr1, hs10, hf1⟩ := h10
            have ht9 := (HH.out.later HB7.out).lt
            have htw := HH.out.lt
            have HN10 := Lib.hid (HN7.out.keep hs10 (by have := HW2.out; omega))
            obtain ⟨y0, -, -, -⟩ := HN10.out.cells
            simp only at y0
            have CN := CNM w10 lv1 hr1
            have HL := Lib.hid (And.intro hs10 hf1)
            clear CP CNM hr1 hs10 hf1 n0 n1 n2 n3
            go_wp2_with fail
            refine CN.mono ?_
            rintro e w11 ⟨rfl, h11⟩
            have HFIN := Lib.hid (RLeft.start HB7.out (RLeft.trans HL.out.2 HL.out.1 h11))
            clear CN h11
            go_wp2
            go_ret
            exact ⟨rfl, HFIN.out⟩

end
end Go.Proofs.YtfokdmijkniomaaGreatDoor

namespace Go.Proofs.YtfokdmijkniomaaGreatDoor
open Go.RowKit Go Go.Maps

section
variable {tb : Nat} {lv : Value} {T : List Nod} {w w' : World}
theorem dropF_step {k : Int} {y : Nde} {acc A R : List Nde} (h : acc ++ dropF k (y :: A) = R) : (acc ++ (if y.num = k then [] else [y])) ++ dropF k A = R := by
  rw [← h]
  unfold dropF
  rw [List.filter_cons]
  by_cases he : y.num = k <;> simp [he]
set_option maxRecDepth 100000 in
set_option maxHeartbeats 16000000 in
theorem rdrop_any (h : RTIs tb lv T w) (hl : T.length ≤ 1000) (hne : T ≠ []) (k : Int) :
    Calls Tryz.prog 35 #[.pointer (some ⟨tb, 0, none⟩), .int .i64 k] w fun e w' => e = .returned (.tuple #[]) ∧ RLeft tb lv (dropN k T) w w' := by
  obtain ⟨A, hA⟩ : ∃ A, tolds T = A := ⟨_, rfl⟩
  obtain ⟨R, hR⟩ : ∃ R, dropF k A = R := ⟨_, rfl⟩
  have HRN := Lib.hid (show R = tolds (dropN k T) from by rw [← hR, ← hA]; exact dropF_is)
  have HR := Lib.hid hR
  have hAl : A.length ≤ 1000 := by rw [← hA, tolds_len]; exact hl
  have hA0 : A ≠ [] := fun e => hne (by rw [← hA] at e; exact List.map_eq_nil_iff.1 e)
  obtain ⟨w2, hw2⟩ : ∃ w2, w.alloc (.cells #[] 38) = w2 := ⟨_, rfl⟩
  have hB2 : Below w.heap.size w w2 := by rw [← hw2]; exact (Below.refl _ w).alloc (Nat.le_refl _) _
  have r2 : w2.ownsRow w.heap.size 38 4 (.slice (some ⟨w.heap.size, 0, none⟩) 0 0) 0 [] := by
    rw [← hw2]
    exact ⟨rfl, .inr ⟨w.heap.size, 0, #[], rfl, Nat.le_refl _, heap_alloc_new _ _, Nat.le_refl _, by unfold maxLen; omega, rfl, rfl⟩⟩
  have HT1 := Lib.hid h
  obtain ⟨a, cap, rfl, hc⟩ := h.list
  rw [hA] at hc HT1
  obtain ⟨b, off, rfl, hb, hc⟩ := hc hA0
  have HX := Lib.hid (fun (W : World) (hB : Below w.heap.size w W) => show W.cell? ⟨tb, 0, none⟩ = some (.slice (some ⟨b, off, none⟩) A.length cap) ∧ ∀ j (_ : j < A.length), W.cell? ⟨b, off + j * 4, none⟩ = some (.int .i64 A[j].num) ∧ W.cell? ⟨b, off + j * 4 + 1, none⟩ = some (.bool A[j].dir) ∧ W.cell? ⟨b, off + j * 4 + 2, none⟩ = some (.int .i64 A[j].links) ∧ W.cell? ⟨b, off + j * 4 + 3, none⟩ = some (.string A[j].data) from by
    refine ⟨RTObj.c0 ((hB.block tb HT1.out.lt).trans HT1.out.obj), fun j hj => lst_node (fun j hj i hi => ?_) hj⟩
    rw [World.cell?_of_block (hB.block b hb)]
    exact hc j hj i hi)
  have HH := Lib.hid h
  have HB2 := Lib.hid hB2
  have HR2 := Lib.hid r2
  have HAL := Lib.hid hAl
  obtain ⟨i0, hi, hz0, hz1, hz2⟩ := info_parts infoNde
  obtain ⟨c0, -⟩ := HX.out w2 hB2
  clear h hl hne hA hR hB2 r2 hc hb hAl hA0
  go_enter Tryz.func35, Tryz.ntmps35
  go_wp2
  clear c0
  go_loopw [4, 5] (fun v i wr => ∃ (j : Nat) (acc : List Nde), j ≤ A.length ∧ i = .int .i64 j ∧ Hid (wr.ownsRow w.heap.size 38 4 v acc.length (acc.flatMap ndeC)) ∧ Hid (acc ++ dropF k (A.drop j) = R ∧ acc.length ≤ j) ∧ Hid (Below w.heap.size w wr)) (fun _ i _ => A.length - (intOf i).toNat)
  case atStart => exact ⟨0, [], Nat.zero_le _, rfl, HR2, Lib.hid ⟨by rw [List.drop_zero]; exact HR.out, Nat.le_refl _⟩, HB2⟩
  case round =>
    obtain ⟨j, acc, hj, rfl, HRW, HI, HB⟩ := hrel
    have hrow := HRW.out
    obtain ⟨av, cv, rfl⟩ := WT.row_shape hrow
    clear hrow
    obtain ⟨c0, hq⟩ := HX.out wr HB.out
    by_cases hlt : j < A.length
    · have hji : (j : Int) < (A.length : Int) := by omega
      obtain ⟨y, hy⟩ : ∃ y, A[j] = y := ⟨_, rfl⟩
      have hq2 := hq j hlt
      rw [hy] at hq2
      obtain ⟨q0, q1, q2, q3⟩ := hq2
      have HST := Lib.hid (show (acc ++ (if y.num = k then [] else [y])) ++ dropF k (A.drop (j + 1)) = R from by
        have h := HI.out.1
        rw [List.drop_eq_getElem_cons hlt, hy] at h
        exact dropF_step h)
      have HLT := Lib.hid hlt
      have HW2 := Lib.hid (show RowKit.wrap64 ((j : Int) + 1) = (j : Int) + 1 from w64_cnt (by omega) (by have := HAL.out; omega))
      have HAC := Lib.hid (show acc.length ≤ j ∧ j ≤ 1000 from ⟨HI.out.2, by have := HAL.out; omega⟩)
      clear hq hy
      by_cases he : y.num = k
      · as_aux_lemma =>
        have hst := HST.out
        rw [if_pos he, List.append_nil] at hst
        have HFIN := Lib.hid hst
        have b2 : (k != k) = false := by simp
        rw [he] at q0
        have hw2 := HW2.out
        clear hst HST HI he
        go_wp2
        go_roundw
        case rel => exact ⟨j + 1, acc, HLT.out, (by first | exact num_up hw2 | rfl), HRW, Lib.hid ⟨HFIN.out, by clear hw2; have := HAC.out; omega⟩, HB⟩
        case measure => first | exact meas_v HLT.out hw2 rfl rfl | exact meas_u HLT.out rfl rfl
      · as_aux_lemma =>
        have hst := HST.out
        rw [if_neg he] at hst
        have HFIN := Lib.hid hst
        have b2 : (y.num != k) = true := by simp [he]
        have b3 : (y.num == k) = false := by simp [he]
        have hrow := HRW.out
        have hlo := HB.out.size
        have hac := HAC.out
        clear hst HST HI he
        go_wp2_with (at_builtin; go_loud (refine wpList_append_own _ rfl _ _ 32 rfl w.heap.size 38 i0 (.agg #[.int .i64 0, .bool false, .int .i64 0, .string ⟨#[]⟩]) 4 40 Tryz.underlying32 hi hz0 hz1 hz2 rfl (by decide) _ _ _ rfl (hrow.alloc _) ⟨wr.heap.size, 0, none⟩ 1 1 [.int .i64 y.num, .bool y.dir, .int .i64 y.links, .string y.data] rfl rfl (WT.cells_new wr [.int .i64 y.num, .bool y.dir, .int .i64 y.links, .string y.data] _) (by simp [Value.oneCell']) (by unfold maxLen; omega) (by omega) (by simp; omega) ?_; intro v' wd hown' hgrow _; have hG : Below w.heap.size wr wd := ((Below.refl _ wr).alloc hlo _).grown hgrow (by simp; omega) (fun j ej => (hrow.lt j ej).1); have HO := Lib.hid hown'; obtain ⟨av2, cv2, rfl⟩ := WT.row_shape hown'; clear hown' hgrow))
        have HBD := Lib.hid (HB.out.trans hG)
        have HOD := Lib.hid (show wd.ownsRow w.heap.size 38 4 (.slice av2 (acc.length + 1) cv2) (acc ++ [y]).length ((acc ++ [y]).flatMap ndeC) from by rw [flat_snoc]; simp only [List.length_append, List.length_singleton]; exact HO.out)
        have hw2 := HW2.out
        clear hG HO hrow
        go_roundw
        case rel => exact ⟨j + 1, acc ++ [y], HLT.out, (by first | exact num_up hw2 | rfl), HOD, Lib.hid ⟨HFIN.out, by clear hw2; have := HAC.out; simp; omega⟩, HBD⟩
        case measure => first | exact meas_v HLT.out hw2 rfl rfl | exact meas_u HLT.out rfl rfl
    · as_aux_lemma =>
      have hji : ¬ (j : Int) < (A.length : Int) := by omega
      have HE := Lib.hid (show acc = R from by
        have h := HI.out.1
        rw [List.drop_of_length_le (by omega)] at h
        simpa [dropF] using h)
      have HFin := Lib.hid (rput_close (U := dropN k T) HH.out (Below.refl _ w) HB.out (v := .slice av acc.length cv) (by rw [← HRN.out, ← HE.out]; exact HRW.out))
      have f0 := RTObj.fr (show wr.heap[tb]? = some (RTObj (.slice (some ⟨b, off, none⟩) A.length cap)) from (HB.out.block tb HT1.out.lt).trans HT1.out.obj)
      clear hq HI
      go_wp2
      go_end0
      exact ⟨rfl, HFin.out⟩
theorem renames_cases (hG : Good T) {p q : ByteArray} {l m : List ByteArray} (hp : IsPath p l) (hq : IsPath q m) (hl : l ≠ []) :
    (∃ e, e ≠ 0 ∧ getV T p = (zeroN, e) ∧ renameV T l m = (T, e)) ∨ ∃ x, nodeAt T x.num = some x ∧ x ∈ T ∧ getV T p = (told x, 0) ∧ walkE T 1 l = .ok x.num ∧
      ((under l m ∧ renameV T l m = (T, 144)) ∨ (¬ under l m ∧ ((∃ e, e ≠ 0 ∧ placeE T m = .error e ∧ renameV T l m = (T, e)) ∨
        ∃ k s u, placeE T m = .ok (k, s) ∧ nodeAt T k = some u ∧ u.dir = true ∧ lookE u.names s = none ∧ u.names.length < 60 ∧ NameOk s ∧
          ((8 < m.length + deepF T 8 x.num ∧ renameV T l m = (T, 145)) ∨ (¬ 8 < m.length + deepF T 8 x.num ∧ renameV T l m = (namePut (nameDel T (upOf T l) (lastOf l)) k s x.num, 0)))))) := by
  unfold renameV
  rw [if_neg hl]
  rcases get_find hG.formed hp with ⟨e, he, hg, hf⟩ | ⟨x, hx, hm, hg, hf, hw⟩
  · exact .inl ⟨e, he, hg, by rw [hf]⟩
  · refine .inr ⟨x, hx, hm, hg, hw, ?_⟩
    rw [hf]
    simp only
    by_cases hun : under l m
    · exact .inl ⟨hun, by rw [if_pos hun]⟩
    · refine .inr ⟨hun, ?_⟩
      rw [if_neg hun]
      cases hpl : placeE T m with
      | error e => exact .inl ⟨e, by have := place_err hpl; omega, rfl, rfl⟩
      | ok r =>
        obtain ⟨k, s⟩ := r
        obtain ⟨hms, _, u, hu, hud, huk, hul⟩ := placeE_ok hpl
        refine .inr ⟨k, s, u, rfl, hu, hud, huk, hul, hq.1 s (by rw [hms]; simp), ?_⟩
        simp only
        by_cases h8 : 8 < m.length + deepF T 8 x.num
        · exact .inl ⟨h8, by rw [if_pos h8]⟩
        · exact .inr ⟨h8, by rw [if_neg h8]⟩
/-- a text begins with another one and a slash -/
theorem under_parts {s t : ByteArray} {l m : List ByteArray} (hl : IsPath s l) (hm : IsPath t m) (h0 : l ≠ []) :
    (under l m ∧ ∃ h : s.size < t.size, ((t.extract 0 s.size).toList == s.toList) = true ∧ ((t[s.size].toNat : Int) == 47) = true) ∨
    (¬ under l m ∧ (¬ s.size < t.size ∨ ∃ h : s.size < t.size, ((t.extract 0 s.size).toList == s.toList) = false ∨ (((t.extract 0 s.size).toList == s.toList) = true ∧ ((t[s.size].toNat : Int) == 47) = false))) := by
  have hb := begins_under hl hm h0
  unfold begins at hb
  have e0 : (s ++ (⟨#[47]⟩ : ByteArray)).data.toList = s.data.toList ++ [47] := by rw [ByteArray.data_append, Array.toList_append]
  have es : s.data.toList.length = s.size := Array.length_toList (xs := s.data)
  have et : t.data.toList.length = t.size := Array.length_toList (xs := t.data)
  have ex : (t.extract 0 s.size).data.toList = t.data.toList.take s.size := Lib.extract_from_zero t s.size
  rw [e0] at hb
  have hiff : under l m ↔ s.data.toList ++ [47] <+: t.data.toList := by
    constructor
    · intro h; rw [decide_eq_true h] at hb; exact of_decide_eq_true hb
    · intro h; rw [decide_eq_true h] at hb; exact of_decide_eq_true hb.symm
  have hget : ∀ (h : s.size < t.size), t.data.toList[s.size]'(by omega) = t[s.size] := fun h => rfl
  by_cases hlt : s.size < t.size
  · by_cases hpre : t.data.toList.take s.size = s.data.toList
    · have hE : ((t.extract 0 s.size).toList == s.toList) = true := by rw [toList_eq, toList_eq, ex, hpre]; simp
      by_cases hby : t[s.size] = 47
      · refine .inl ⟨hiff.2 ?_, hlt, hE, by rw [hby]; rfl⟩
        have e2 : s.data.toList ++ [47] = t.data.toList.take (s.size + 1) := by
          rw [List.take_succ_eq_append_getElem (by omega), hpre, hget hlt, hby]
        rw [e2]
        exact List.take_prefix _ _
      · refine .inr ⟨fun h => hby ?_, .inr ⟨hlt, .inr ⟨hE, ?_⟩⟩⟩
        · have e3 := List.prefix_iff_eq_take.1 (hiff.1 h)
          rw [List.length_append, es, List.length_singleton, List.take_succ_eq_append_getElem (by omega), hpre, hget hlt] at e3
          have := List.append_cancel_left e3
          simpa using this.symm
        · refine beq_eq_false_iff_ne.2 fun e => hby ?_
          exact UInt8.toNat_inj.1 (by simpa using Int.ofNat_inj.1 e)
    · refine .inr ⟨fun h => hpre ?_, .inr ⟨hlt, .inl ?_⟩⟩
      · have e3 := (List.IsPrefix.trans (List.prefix_append _ _) (hiff.1 h) : s.data.toList <+: t.data.toList)
        have := List.prefix_iff_eq_take.1 e3
        rw [es] at this
        exact this.symm
      · rw [toList_eq, toList_eq, ex]
        exact beq_eq_false_iff_ne.2 hpre
  · refine .inr ⟨fun h => hlt ?_, .inl hlt⟩
    have := (hiff.1 h).length_le
    rw [List.length_append, List.length_singleton] at this
    omega
end
end Go.Proofs.YtfokdmijkniomaaGreatDoor

