/-
  The document's tree: renames.
-/
import Derived.Test.YtfokdmijkniomaaGreatDoorS4
namespace Go.Proofs.YtfokdmijkniomaaGreatDoor
open Go.RowKit Go Go.Maps

theorem w64_two {a b : Nat} (h : a + b ≤ 2000) : RowKit.wrap64 ((a : Int) + (b : Int)) = (a : Int) + (b : Int) := by simp [RowKit.wrap64]; omega
theorem hcq {c : Cmd} {b : Nat} {w : World} (h : CmdAt c b w) : CmdAt c b w := h
section
variable {tb : Nat} {lv : Value} {T : List Nod} {w w' : World}
/-- a path's own directory; the tree without that name -/
theorem del_parts (hG : Good T) {l : List ByteArray} (hl : l ≠ []) {n : Int} (hw : walkE T 1 l = .ok n) : ∃ d, nodeAt T (upOf T l) = some d ∧ d.dir = true ∧ lookE d.names (lastOf l) = some n ∧ walkE T 1 l.dropLast = .ok (upOf T l) ∧
    RawN (nameDel T (upOf T l) (lastOf l)) ∧ ∀ k u, nodeAt T k = some u → ∃ u', nodeAt (nameDel T (upOf T l) (lastOf l)) k = some u' ∧ u'.num = u.num ∧ u'.dir = u.dir ∧ u'.links = u.links ∧ u'.data = u.data ∧ u'.names.length ≤ u.names.length ∧ (∀ s, lookE u.names s = none → lookE u'.names s = none) := by
  obtain ⟨_, h2, h3⟩ := up_ok hl hw
  obtain ⟨d, hd, hdd, hk⟩ := step_ok.1 h3
  refine ⟨d, hd, hdd, hk, h2, ?_, fun k u hu => ?_⟩
  · obtain ⟨a1, a2, a3⟩ := hG.formed.rawN.dir d (at_mem hd).1 hdd
    have e : nameDel T (upOf T l) (lastOf l) = putN { d with names := delE (lastOf l) d.names } T := by unfold nameDel; rw [hd]
    rw [e]
    refine hG.formed.rawN.put (fun _ => ⟨a1.del _, ?_, fun e he => a3 e (mem_del.1 he).1⟩) ?_
    · have := del_len a1 hk
      simp only
      omega
    · rw [lenN_put (x := { d with names := delE (lastOf l) d.names }) hG.formed.rise (by rw [(at_mem hd).2]; exact hd)]
      have := hG.formed.len; omega
  · rw [at_nameDel hd]
    by_cases e : upOf T l = k
    · rw [if_pos e]
      rw [e, hu] at hd
      cases hd
      refine ⟨_, rfl, rfl, rfl, rfl, rfl, List.Sublist.length_le (drop_sub _ _), fun s hs => ?_⟩
      simp only [look_del]
      split
      · rfl
      · exact hs
    · rw [if_neg e]
      exact ⟨u, hu, rfl, rfl, rfl, rfl, Nat.le_refl _, fun s hs => hs⟩
set_option maxRecDepth 100000 in
set_option maxHeartbeats 16000000 in
theorem rrenames_any (h : RTIs tb lv T w) (hG : Good T) (c : Cmd) {l m : List ByteArray} (hp : IsPath c.path l) (hq : IsPath c.dest m) (hs : c.path.size ≤ 281474976710656) (hs2 : c.dest.size ≤ 281474976710656) :
    Calls Tryz.prog 32 #[.pointer (some ⟨tb, 0, none⟩), cmdV c] w fun e w' => e = .returned (.int .i64 (renameV T l m).2) ∧ RLeft tb lv (renameV T l m).1 w w' := by
  obtain ⟨ck, cp, ct, ca, cd⟩ := c
  simp only at *
  obtain ⟨w1, hw1⟩ : ∃ w1, w.alloc (CmdObj ⟨ck, cp, ct, ca, cd⟩) = w1 := ⟨_, rfl⟩
  have hB1 : Below w.heap.size w w1 := by rw [← hw1]; exact (Below.refl _ w).alloc (Nat.le_refl _) _
  have hc1 : CmdAt ⟨ck, cp, ct, ca, cd⟩ w.heap.size w1 := by rw [← hw1]; exact .new _ _
  obtain ⟨d0, d1, d2, d3, d4⟩ := hc1.cells
  simp only at d0 d1 d2 d3 d4
  unfold CmdObj at hw1
  unfold cmdV
  simp only at hw1 ⊢
  have hrt := root_path hp
  by_cases hl : l = []
  · as_aux_lemma =>
    rw [decide_eq_true hl] at hrt
    have hv : renameV T l m = (T, 144) := by unfold renameV; rw [if_pos hl]
    rw [hv]
    have HFIN := Lib.hid (RLeft.same h hB1)
    clear h hG hp hq hs hs2 hl hv hB1 hc1
    go_enter Tryz.func32, Tryz.ntmps32
    go_wp2
    go_ret
    exact ⟨rfl, HFIN.out⟩
  rw [decide_eq_false hl] at hrt
  have CG := rget_any (h.later hB1) hG.formed hs
  rcases renames_cases hG hp hq hl with ⟨E, hE, hg, hv⟩ | ⟨x, hx, hm, hg, hw, hv⟩
  · as_aux_lemma =>
    rw [hg] at CG
    rw [hv]
    have he0 : (E != 0) = true := by simp [hE]
    unfold ndeV zeroN at CG
    simp only at CG ⊢
    clear hG hp hs hs2 hg hv hE hq hl
    go_enter Tryz.func32, Tryz.ntmps32
    go_wp2_with fail
    refine CG.mono ?_
    rintro e w2 ⟨rfl, hB2⟩
    obtain ⟨wA, x1, x2, x3, x4, hwA, ⟨k1, k2, k3, k4⟩, ⟨p1, p2, p3, p4⟩, ⟨r1, r2, r3, r4⟩, HN, hBB, hsz⟩ := nde_box ⟨0, false, 0, ⟨#[]⟩⟩ w2
    have HN := Lib.hid HN
    simp only at k1 k2 k3 k4
    have hB4 := hB2.trans (hBB.mono hB2.size)
    have HB4 := Lib.hid (hB1.trans (hB4.mono hB1.size))
    have HC4 := Lib.hid (hc1.later hB4)
    obtain ⟨e0, e1, e2, e3, e4⟩ := HC4.out.cells
    obtain ⟨c0, c1, c2, c3⟩ := HN.out.cells
    simp only at e0 e1 e2 e3 e4 c0 c1 c2 c3
    have HFIN := Lib.hid (RLeft.same h HB4.out)
    clear h hB1 hc1 hB2 hBB hsz CG hB4 d0 d1 d2 d3 d4
    go_wp2
    go_ret
    exact ⟨rfl, HFIN.out⟩
  · obtain ⟨⟨rn, rd, rl, rb⟩, hR⟩ : ∃ R, told x = R := ⟨_, rfl⟩
    rw [hg, hR] at CG
    have hrn : x.num = rn := congrArg Nde.num hR
    have HH := Lib.hid h
    have HGD := Lib.hid hG
    have HS2 := Lib.hid hs2
    have HQ := Lib.hid hq
    have hup := under_parts hp hq hl
    unfold ndeV at CG
    simp only at CG
    rcases hv with ⟨hun, hv⟩ | ⟨hun, hv⟩
    · as_aux_lemma =>
      obtain ⟨hlt, heq, hby⟩ := (hup.resolve_right (fun h => h.1 hun)).2
      rw [hv]
      simp only
      have hlti : (ct.size : Int) > (cp.size : Int) := by omega
      have hlei : (cp.size : Int) ≤ (ct.size : Int) := by omega
      have hlen : cp.size ≤ ct.size := by omega
      have hltj : (cp.size : Int) < (ct.size : Int) := by omega
      clear hG hp hs hs2 hg hv hR hx hm hq hl hrn hw hun hup
      go_enter Tryz.func32, Tryz.ntmps32
      go_wp2_with fail
      refine CG.mono ?_
      rintro e w2 ⟨rfl, hB2⟩
      obtain ⟨wA, x1, x2, x3, x4, hwA, ⟨k1, k2, k3, k4⟩, ⟨p1, p2, p3, p4⟩, ⟨r1, r2, r3, r4⟩, HN, hBB, hsz⟩ := nde_box ⟨rn, rd, rl, rb⟩ w2
      have HN := Lib.hid HN
      simp only at k1 k2 k3 k4
      have hB4 := hB2.trans (hBB.mono hB2.size)
      have HB4 := Lib.hid (hB1.trans (hB4.mono hB1.size))
      have HC4 := Lib.hid (hc1.later hB4)
      obtain ⟨e0, e1, e2, e3, e4⟩ := HC4.out.cells
      obtain ⟨c0, c1, c2, c3⟩ := HN.out.cells
      simp only at e0 e1 e2 e3 e4 c0 c1 c2 c3
      clear hB1 hc1 hB2 hBB hsz CG hB4 d0 d1 d2 d3 d4
      go_wp2_with fail
      refine wp_region_held_drew (S := fun w' => w'.cell? ⟨w.heap.size, 2, none⟩ = some (.string ct) ∧ w'.cell? ⟨w.heap.size, 1, none⟩ = some (.string cp)) (by kernel_rfl) ⟨e2, e1⟩ (fun hHeld => ?_)
      refine tkH 30 (i := 0) (v := .pointer (some ⟨w.heap.size, 2, none⟩)) (h := ?_)
      simp only [Act.put, stA, st0, st1]
      refine tkH 31 (i := 1) (v := .string ct) (h := ?_)
      simp only [Act.put, stA, st0, st1]
      refine tkH 32 (i := 2) (v := .int .i64 (ct.size : Int)) (h := ?_)
      simp only [Act.put, stA, st0, st1]
      refine tkH 33 (i := 3) (v := .int .i64 (cp.size : Int)) (h := ?_)
      simp only [Act.put, stA, st0, st1]
      refine tkH 34 (i := 4) (v := .bool true) (h := ?_)
      simp only [Act.put, stA, st0, st1]
      refine tkH 35 (i := 5) (v := .bool true) (h := ?_)
      simp only [Act.put, stA, st0, st1]
      refine tkH 36 (i := 6) (v := .pointer (some ⟨w.heap.size, 2, none⟩)) (h := ?_)
      simp only [Act.put, stA, st0, st1]
      refine tkH 37 (i := 7) (v := .string ct) (h := ?_)
      simp only [Act.put, stA, st0, st1]
      refine tkH 38 (i := 8) (v := .int .i64 (cp.size : Int)) (h := ?_)
      simp only [Act.put, stA, st0, st1]
      refine tkH 39 (i := 9) (v := .string (ct.extract 0 cp.size)) (h := ?_)
      simp only [Act.put, stA, st0, st1]
      refine tkH 40 (i := 10) (v := .pointer (some ⟨w.heap.size, 1, none⟩)) (h := ?_)
      simp only [Act.put, stA, st0, st1]
      refine tkH 41 (i := 11) (v := .string cp) (h := ?_)
      simp only [Act.put, stA, st0, st1]
      refine tkH 42 (i := 12) (v := .bool true) (h := ?_)
      simp only [Act.put, stA, st0, st1]
      refine tkH 43 (i := 13) (v := .bool true) (h := ?_)
      simp only [Act.put, stA, st0, st1]
      refine tkH 44 (i := 14) (v := .bool true) (h := ?_)
      simp only [Act.put, stA, st0, st1]
      refine tkH 45 (i := 15) (v := .pointer (some ⟨w.heap.size, 2, none⟩)) (h := ?_)
      simp only [Act.put, stA, st0, st1]
      refine tkH 46 (i := 16) (v := .string ct) (h := ?_)
      simp only [Act.put, stA, st0, st1]
      refine tkH 47 (i := 17) (v := .int .i64 (cp.size : Int)) (h := ?_)
      simp only [Act.put, stA, st0, st1]
      refine tkH 48 (i := 18) (v := .int .u8 (ct[cp.size].toNat : Int)) (h := ?_)
      simp only [Act.put, stA, st0, st1]
      refine tkH 49 (i := 19) (v := .bool true) (h := ?_)
      simp only [Act.put, stA, st0, st1]
      refine tkH 50 (i := 20) (v := .bool true) (h := ?_)
      simp only [Act.put, stA, st0, st1]
      refine wpAnyH_done (by kernel_rfl) ?_ _
      clear hHeld
      go_wp2
      go_ret
      exact ⟨rfl, RLeft.same HH.out (HB4.out.trans ((Below.refl _ x4).drew.mono HB4.out.size))⟩
    · have hpre := (hup.resolve_left (fun h => hun h.1)).2
      rcases hv with ⟨E, hE, hpl, hv⟩ | ⟨k, s, u, hpl, hu, hud, huk, hul, hso, hv⟩
      · as_aux_lemma =>
        rw [hv]
        simp only
        have he0 : (E != 0) = true := by simp [hE]
        have CR := fun (W : World) (hB : Below w.heap.size w W) => rroom_any (HH.out.later hB) HGD.out.formed hs2 hq
        rw [hpl] at CR
        unfold RRoomE ndeV zeroN at CR
        simp only at CR
        clear hG hp hs hs2 hg hv hR hx hm hq hl hrn hw hun hup hE hpl
        go_enter Tryz.func32, Tryz.ntmps32
        go_wp2_with fail
        refine CG.mono ?_
        rintro e w2 ⟨rfl, hB2⟩
        obtain ⟨wA, x1, x2, x3, x4, hwA, ⟨k1, k2, k3, k4⟩, ⟨p1, p2, p3, p4⟩, ⟨r1, r2, r3, r4⟩, HN, hBB, hsz⟩ := nde_box ⟨rn, rd, rl, rb⟩ w2
        have HN := Lib.hid HN
        simp only at k1 k2 k3 k4
        have hB4 := hB2.trans (hBB.mono hB2.size)
        have HB4 := Lib.hid (hB1.trans (hB4.mono hB1.size))
        have HC4 := Lib.hid (hc1.later hB4)
        obtain ⟨e0, e1, e2, e3, e4⟩ := HC4.out.cells
        obtain ⟨c0, c1, c2, c3⟩ := HN.out.cells
        simp only at e0 e1 e2 e3 e4 c0 c1 c2 c3
        rcases hpre with hlt | ⟨hlt, heq | ⟨heq, hby⟩⟩
        · have hlti : ¬ (ct.size : Int) > (cp.size : Int) := by omega
          have hle0 : ct.size ≤ cp.size := by omega
          clear hlt
          clear hB1 hc1 hB2 hBB hsz CG hB4 d0 d1 d2 d3 d4
          go_wp2_with fail
          refine wp_region_held_drew (S := fun w' => w'.cell? ⟨w.heap.size, 2, none⟩ = some (.string ct) ∧ w'.cell? ⟨w.heap.size, 1, none⟩ = some (.string cp)) (by kernel_rfl) ⟨e2, e1⟩ (fun hHeld => ?_)
          refine tkH 30 (i := 0) (v := .pointer (some ⟨w.heap.size, 2, none⟩)) (h := ?_)
          simp only [Act.put, stA, st0, st1]
          refine tkH 31 (i := 1) (v := .string ct) (h := ?_)
          simp only [Act.put, stA, st0, st1]
          refine tkH 32 (i := 2) (v := .int .i64 (ct.size : Int)) (h := ?_)
          simp only [Act.put, stA, st0, st1]
          refine tkH 33 (i := 3) (v := .int .i64 (cp.size : Int)) (h := ?_)
          simp only [Act.put, stA, st0, st1]
          refine tkH 34 (i := 4) (v := .bool false) (h := ?_)
          simp only [Act.put, stA, st0, st1]
          refine tkH 35 (i := 5) (v := .bool false) (h := ?_)
          simp only [Act.put, stA, st0, st1]
          refine tkU 36 (i := 6) (v := undef) (h := ?_)
          simp only [Act.put, stA, st0, st1]
          refine tkU 37 (i := 7) (v := undef) (h := ?_)
          simp only [Act.put, stA, st0, st1]
          refine tkU 38 (i := 8) (v := undef) (h := ?_)
          simp only [Act.put, stA, st0, st1]
          refine tkU 39 (i := 9) (v := undef) (h := ?_)
          simp only [Act.put, stA, st0, st1]
          refine tkU 40 (i := 10) (v := undef) (h := ?_)
          simp only [Act.put, stA, st0, st1]
          refine tkU 41 (i := 11) (v := undef) (h := ?_)
          simp only [Act.put, stA, st0, st1]
          refine tkU 42 (i := 12) (v := undef) (h := ?_)
          simp only [Act.put, stA, st0, st1]
          refine tkH 43 (i := 13) (v := .bool false) (h := ?_)
          simp only [Act.put, stA, st0, st1]
          refine tkH 44 (i := 14) (v := .bool false) (h := ?_)
          simp only [Act.put, stA, st0, st1]
          refine tkU 45 (i := 15) (v := undef) (h := ?_)
          simp only [Act.put, stA, st0, st1]
          refine tkU 46 (i := 16) (v := undef) (h := ?_)
          simp only [Act.put, stA, st0, st1]
          refine tkU 47 (i := 17) (v := undef) (h := ?_)
          simp only [Act.put, stA, st0, st1]
          refine tkU 48 (i := 18) (v := undef) (h := ?_)
          simp only [Act.put, stA, st0, st1]
          refine tkU 49 (i := 19) (v := undef) (h := ?_)
          simp only [Act.put, stA, st0, st1]
          refine tkH 50 (i := 20) (v := .bool false) (h := ?_)
          simp only [Act.put, stA, st0, st1]
          refine wpAnyH_done (by kernel_rfl) ?_ _
          clear hHeld
          have HBD := Lib.hid (HB4.out.trans ((Below.refl _ x4).drew.mono HB4.out.size))
          have hBd : Below x4.heap.size x4 x4.drew := (Below.refl _ x4).drew
          generalize x4.drew = xd at HBD hBd ⊢
          have HND := Lib.hid (HN.out.later hBd)
          have HCD := Lib.hid (HC4.out.later hBd)
          clear hBd e0 e1 e2 e3 e4 c0 c1 c2 c3
          obtain ⟨e0, e1, e2, e3, e4⟩ := HCD.out.cells
          simp only at e0 e1 e2 e3 e4
          go_wp2_with fail
          refine (CR _ HBD.out).mono ?_
          rintro e w6 ⟨rfl, hB6⟩
          obtain ⟨wC, z1, z2, z3, z4, hwC, ⟨j1, j2, j3, j4⟩, ⟨o1, o2, o3, o4⟩, ⟨i1, i2, i3, i4⟩, HM, hBC, hsz2⟩ := nde_box ⟨0, false, 0, ⟨#[]⟩⟩ w6
          have HM := Lib.hid HM
          simp only at j1 j2 j3 j4
          have HFIN := Lib.hid (RLeft.same h (HBD.out.trans ((hB6.trans (hBC.mono hB6.size)).mono HBD.out.size)))
          clear h hB6 hBC hsz2 CR
          go_wp2
          go_ret
          exact ⟨rfl, HFIN.out⟩
        · have hlti : (ct.size : Int) > (cp.size : Int) := by omega
          have hlei : (cp.size : Int) ≤ (ct.size : Int) := by omega
          have hlen : cp.size ≤ ct.size := by omega
          clear hB1 hc1 hB2 hBB hsz CG hB4 d0 d1 d2 d3 d4
          go_wp2_with fail
          refine wp_region_held_drew (S := fun w' => w'.cell? ⟨w.heap.size, 2, none⟩ = some (.string ct) ∧ w'.cell? ⟨w.heap.size, 1, none⟩ = some (.string cp)) (by kernel_rfl) ⟨e2, e1⟩ (fun hHeld => ?_)
          refine tkH 30 (i := 0) (v := .pointer (some ⟨w.heap.size, 2, none⟩)) (h := ?_)
          simp only [Act.put, stA, st0, st1]
          refine tkH 31 (i := 1) (v := .string ct) (h := ?_)
          simp only [Act.put, stA, st0, st1]
          refine tkH 32 (i := 2) (v := .int .i64 (ct.size : Int)) (h := ?_)
          simp only [Act.put, stA, st0, st1]
          refine tkH 33 (i := 3) (v := .int .i64 (cp.size : Int)) (h := ?_)
          simp only [Act.put, stA, st0, st1]
          refine tkH 34 (i := 4) (v := .bool true) (h := ?_)
          simp only [Act.put, stA, st0, st1]
          refine tkH 35 (i := 5) (v := .bool true) (h := ?_)
          simp only [Act.put, stA, st0, st1]
          refine tkH 36 (i := 6) (v := .pointer (some ⟨w.heap.size, 2, none⟩)) (h := ?_)
          simp only [Act.put, stA, st0, st1]
          refine tkH 37 (i := 7) (v := .string ct) (h := ?_)
          simp only [Act.put, stA, st0, st1]
          refine tkH 38 (i := 8) (v := .int .i64 (cp.size : Int)) (h := ?_)
          simp only [Act.put, stA, st0, st1]
          refine tkH 39 (i := 9) (v := .string (ct.extract 0 cp.size)) (h := ?_)
          simp only [Act.put, stA, st0, st1]
          refine tkH 40 (i := 10) (v := .pointer (some ⟨w.heap.size, 1, none⟩)) (h := ?_)
          simp only [Act.put, stA, st0, st1]
          refine tkH 41 (i := 11) (v := .string cp) (h := ?_)
          simp only [Act.put, stA, st0, st1]
          refine tkH 42 (i := 12) (v := .bool false) (h := ?_)
          simp only [Act.put, stA, st0, st1]
          refine tkH 43 (i := 13) (v := .bool false) (h := ?_)
          simp only [Act.put, stA, st0, st1]
          refine tkH 44 (i := 14) (v := .bool false) (h := ?_)
          simp only [Act.put, stA, st0, st1]
          refine tkU 45 (i := 15) (v := undef) (h := ?_)
          simp only [Act.put, stA, st0, st1]
          refine tkU 46 (i := 16) (v := undef) (h := ?_)
          simp only [Act.put, stA, st0, st1]
          refine tkU 47 (i := 17) (v := undef) (h := ?_)
          simp only [Act.put, stA, st0, st1]
          refine tkU 48 (i := 18) (v := undef) (h := ?_)
          simp only [Act.put, stA, st0, st1]
          refine tkU 49 (i := 19) (v := undef) (h := ?_)
          simp only [Act.put, stA, st0, st1]
          refine tkH 50 (i := 20) (v := .bool false) (h := ?_)
          simp only [Act.put, stA, st0, st1]
          refine wpAnyH_done (by kernel_rfl) ?_ _
          clear hHeld
          have HBD := Lib.hid (HB4.out.trans ((Below.refl _ x4).drew.mono HB4.out.size))
          have hBd : Below x4.heap.size x4 x4.drew := (Below.refl _ x4).drew
          generalize x4.drew = xd at HBD hBd ⊢
          have HND := Lib.hid (HN.out.later hBd)
          have HCD := Lib.hid (HC4.out.later hBd)
          clear hBd e0 e1 e2 e3 e4 c0 c1 c2 c3
          obtain ⟨e0, e1, e2, e3, e4⟩ := HCD.out.cells
          simp only at e0 e1 e2 e3 e4
          go_wp2_with fail
          refine (CR _ HBD.out).mono ?_
          rintro e w6 ⟨rfl, hB6⟩
          obtain ⟨wC, z1, z2, z3, z4, hwC, ⟨j1, j2, j3, j4⟩, ⟨o1, o2, o3, o4⟩, ⟨i1, i2, i3, i4⟩, HM, hBC, hsz2⟩ := nde_box ⟨0, false, 0, ⟨#[]⟩⟩ w6
          have HM := Lib.hid HM
          simp only at j1 j2 j3 j4
          have HFIN := Lib.hid (RLeft.same h (HBD.out.trans ((hB6.trans (hBC.mono hB6.size)).mono HBD.out.size)))
          clear h hB6 hBC hsz2 CR
          go_wp2
          go_ret
          exact ⟨rfl, HFIN.out⟩
        · have hlti : (ct.size : Int) > (cp.size : Int) := by omega
          have hlei : (cp.size : Int) ≤ (ct.size : Int) := by omega
          have hlen : cp.size ≤ ct.size := by omega
          have hltj : (cp.size : Int) < (ct.size : Int) := by omega
          clear hB1 hc1 hB2 hBB hsz CG hB4 d0 d1 d2 d3 d4
          go_wp2_with fail
          refine wp_region_held_drew (S := fun w' => w'.cell? ⟨w.heap.size, 2, none⟩ = some (.string ct) ∧ w'.cell? ⟨w.heap.size, 1, none⟩ = some (.string cp)) (by kernel_rfl) ⟨e2, e1⟩ (fun hHeld => ?_)
          refine tkH 30 (i := 0) (v := .pointer (some ⟨w.heap.size, 2, none⟩)) (h := ?_)
          simp only [Act.put, stA, st0, st1]
          refine tkH 31 (i := 1) (v := .string ct) (h := ?_)
          simp only [Act.put, stA, st0, st1]
          refine tkH 32 (i := 2) (v := .int .i64 (ct.size : Int)) (h := ?_)
          simp only [Act.put, stA, st0, st1]
          refine tkH 33 (i := 3) (v := .int .i64 (cp.size : Int)) (h := ?_)
          simp only [Act.put, stA, st0, st1]
          refine tkH 34 (i := 4) (v := .bool true) (h := ?_)
          simp only [Act.put, stA, st0, st1]
          refine tkH 35 (i := 5) (v := .bool true) (h := ?_)
          simp only [Act.put, stA, st0, st1]
          refine tkH 36 (i := 6) (v := .pointer (some ⟨w.heap.size, 2, none⟩)) (h := ?_)
          simp only [Act.put, stA, st0, st1]
          refine tkH 37 (i := 7) (v := .string ct) (h := ?_)
          simp only [Act.put, stA, st0, st1]
          refine tkH 38 (i := 8) (v := .int .i64 (cp.size : Int)) (h := ?_)
          simp only [Act.put, stA, st0, st1]
          refine tkH 39 (i := 9) (v := .string (ct.extract 0 cp.size)) (h := ?_)
          simp only [Act.put, stA, st0, st1]
          refine tkH 40 (i := 10) (v := .pointer (some ⟨w.heap.size, 1, none⟩)) (h := ?_)
          simp only [Act.put, stA, st0, st1]
          refine tkH 41 (i := 11) (v := .string cp) (h := ?_)
          simp only [Act.put, stA, st0, st1]
          refine tkH 42 (i := 12) (v := .bool true) (h := ?_)
          simp only [Act.put, stA, st0, st1]
          refine tkH 43 (i := 13) (v := .bool true) (h := ?_)
          simp only [Act.put, stA, st0, st1]
          refine tkH 44 (i := 14) (v := .bool true) (h := ?_)
          simp only [Act.put, stA, st0, st1]
          refine tkH 45 (i := 15) (v := .pointer (some ⟨w.heap.size, 2, none⟩)) (h := ?_)
          simp only [Act.put, stA, st0, st1]
          refine tkH 46 (i := 16) (v := .string ct) (h := ?_)
          simp only [Act.put, stA, st0, st1]
          refine tkH 47 (i := 17) (v := .int .i64 (cp.size : Int)) (h := ?_)
          simp only [Act.put, stA, st0, st1]
          refine tkH 48 (i := 18) (v := .int .u8 (ct[cp.size].toNat : Int)) (h := ?_)
          simp only [Act.put, stA, st0, st1]
          refine tkH 49 (i := 19) (v := .bool false) (h := ?_)
          simp only [Act.put, stA, st0, st1]
          refine tkH 50 (i := 20) (v := .bool false) (h := ?_)
          simp only [Act.put, stA, st0, st1]
          refine wpAnyH_done (by kernel_rfl) ?_ _
          clear hHeld
          have HBD := Lib.hid (HB4.out.trans ((Below.refl _ x4).drew.mono HB4.out.size))
          have hBd : Below x4.heap.size x4 x4.drew := (Below.refl _ x4).drew
          generalize x4.drew = xd at HBD hBd ⊢
          have HND := Lib.hid (HN.out.later hBd)
          have HCD := Lib.hid (HC4.out.later hBd)
          clear hBd e0 e1 e2 e3 e4 c0 c1 c2 c3
          obtain ⟨e0, e1, e2, e3, e4⟩ := HCD.out.cells
          simp only at e0 e1 e2 e3 e4
          go_wp2_with fail
          refine (CR _ HBD.out).mono ?_
          rintro e w6 ⟨rfl, hB6⟩
          obtain ⟨wC, z1, z2, z3, z4, hwC, ⟨j1, j2, j3, j4⟩, ⟨o1, o2, o3, o4⟩, ⟨i1, i2, i3, i4⟩, HM, hBC, hsz2⟩ := nde_box ⟨0, false, 0, ⟨#[]⟩⟩ w6
          have HM := Lib.hid HM
          simp only at j1 j2 j3 j4
          have HFIN := Lib.hid (RLeft.same h (HBD.out.trans ((hB6.trans (hBC.mono hB6.size)).mono HBD.out.size)))
          clear h hB6 hBC hsz2 CR
          go_wp2
          go_ret
          exact ⟨rfl, HFIN.out⟩
      · have CR := fun (W : World) (hB : Below w.heap.size w W) => rroom_any (HH.out.later hB) HGD.out.formed hs2 hq
        rw [hpl] at CR
        unfold RRoomE at CR
        simp only [hu] at CR
        obtain ⟨⟨vn, vd, vl, vb⟩, hU⟩ : ∃ R, told u = R := ⟨_, rfl⟩
        have hvn : vn = k := by rw [← (at_mem hu).2]; exact (congrArg Nde.num hU).symm
        have HPL := Lib.hid (show ∀ (W : World) e, (∃ y, some u = some y ∧ e = Ending.returned (.tuple #[ndeV (told y), .string s, .int .i64 0])) → e = .returned (.tuple #[.agg #[.int .i64 k, .bool vd, .int .i64 vl, .string vb], .string s, .int .i64 0]) from fun W e ⟨y, hy, he⟩ => by
          cases hy
          rw [he, hU, hvn]; rfl)
        have hfit : Fits T 8 x.num := fun q j hq => by
          have := hG.short (l ++ q) j (by rw [walk_to hw]; exact hq)
          rw [List.length_append] at this
          omega
        have CDEEP := fun (W : World) (hB : Below w.heap.size w W) => rdeep_any HGD.out.formed 8 hx hfit (by omega) W (HH.out.later hB)
        have hdle := deep_le hG.formed.riseAll hfit
        rw [hR] at CDEEP
        unfold ndeV at CDEEP
        simp only at CDEEP
        obtain ⟨dp, hdp⟩ : ∃ d, deepF T 8 x.num = d := ⟨_, rfl⟩
        rw [hdp] at CDEEP hv hdle
        have hm8 := (path_names hq).1
        have HW8 := Lib.hid (w64_two (a := m.length) (b := dp) (by omega))
        rcases hv with ⟨h8, hv⟩ | ⟨h8, hv⟩
        · as_aux_lemma =>
          rw [hv]
          simp only
          have h8i : ((m.length : Nat) : Int) + (dp : Int) > 8 := by omega
          clear hG hp hs hs2 hg hv hR hx hm hq hl hrn hw hun hup hpl hu hud huk hul hso hU hvn hfit hdp hm8 h8 hdle
          go_enter Tryz.func32, Tryz.ntmps32
          go_wp2_with fail
          refine CG.mono ?_
          rintro e w2 ⟨rfl, hB2⟩
          obtain ⟨wA, x1, x2, x3, x4, hwA, ⟨k1, k2, k3, k4⟩, ⟨p1, p2, p3, p4⟩, ⟨r1, r2, r3, r4⟩, HN, hBB, hsz⟩ := nde_box ⟨rn, rd, rl, rb⟩ w2
          have HN := Lib.hid HN
          simp only at k1 k2 k3 k4
          have hB4 := hB2.trans (hBB.mono hB2.size)
          have HB4 := Lib.hid (hB1.trans (hB4.mono hB1.size))
          have HC4 := Lib.hid (hc1.later hB4)
          obtain ⟨e0, e1, e2, e3, e4⟩ := HC4.out.cells
          obtain ⟨c0, c1, c2, c3⟩ := HN.out.cells
          simp only at e0 e1 e2 e3 e4 c0 c1 c2 c3
          rcases hpre with hlt | ⟨hlt, heq | ⟨heq, hby⟩⟩
          · have hlti : ¬ (ct.size : Int) > (cp.size : Int) := by omega
            have hle0 : ct.size ≤ cp.size := by omega
            clear hlt
            clear hB1 hc1 hB2 hBB hsz CG hB4 d0 d1 d2 d3 d4
            go_wp2_with fail
            refine wp_region_held_drew (S := fun w' => w'.cell? ⟨w.heap.size, 2, none⟩ = some (.string ct) ∧ w'.cell? ⟨w.heap.size, 1, none⟩ = some (.string cp)) (by kernel_rfl) ⟨e2, e1⟩ (fun hHeld => ?_)
            refine tkH 30 (i := 0) (v := .pointer (some ⟨w.heap.size, 2, none⟩)) (h := ?_)
            simp only [Act.put, stA, st0, st1]
            refine tkH 31 (i := 1) (v := .string ct) (h := ?_)
            simp only [Act.put, stA, st0, st1]
            refine tkH 32 (i := 2) (v := .int .i64 (ct.size : Int)) (h := ?_)
            simp only [Act.put, stA, st0, st1]
            refine tkH 33 (i := 3) (v := .int .i64 (cp.size : Int)) (h := ?_)
            simp only [Act.put, stA, st0, st1]
            refine tkH 34 (i := 4) (v := .bool false) (h := ?_)
            simp only [Act.put, stA, st0, st1]
            refine tkH 35 (i := 5) (v := .bool false) (h := ?_)
            simp only [Act.put, stA, st0, st1]
            refine tkU 36 (i := 6) (v := undef) (h := ?_)
            simp only [Act.put, stA, st0, st1]
            refine tkU 37 (i := 7) (v := undef) (h := ?_)
            simp only [Act.put, stA, st0, st1]
            refine tkU 38 (i := 8) (v := undef) (h := ?_)
            simp only [Act.put, stA, st0, st1]
            refine tkU 39 (i := 9) (v := undef) (h := ?_)
            simp only [Act.put, stA, st0, st1]
            refine tkU 40 (i := 10) (v := undef) (h := ?_)
            simp only [Act.put, stA, st0, st1]
            refine tkU 41 (i := 11) (v := undef) (h := ?_)
            simp only [Act.put, stA, st0, st1]
            refine tkU 42 (i := 12) (v := undef) (h := ?_)
            simp only [Act.put, stA, st0, st1]
            refine tkH 43 (i := 13) (v := .bool false) (h := ?_)
            simp only [Act.put, stA, st0, st1]
            refine tkH 44 (i := 14) (v := .bool false) (h := ?_)
            simp only [Act.put, stA, st0, st1]
            refine tkU 45 (i := 15) (v := undef) (h := ?_)
            simp only [Act.put, stA, st0, st1]
            refine tkU 46 (i := 16) (v := undef) (h := ?_)
            simp only [Act.put, stA, st0, st1]
            refine tkU 47 (i := 17) (v := undef) (h := ?_)
            simp only [Act.put, stA, st0, st1]
            refine tkU 48 (i := 18) (v := undef) (h := ?_)
            simp only [Act.put, stA, st0, st1]
            refine tkU 49 (i := 19) (v := undef) (h := ?_)
            simp only [Act.put, stA, st0, st1]
            refine tkH 50 (i := 20) (v := .bool false) (h := ?_)
            simp only [Act.put, stA, st0, st1]
            refine wpAnyH_done (by kernel_rfl) ?_ _
            clear hHeld
            have HBD := Lib.hid (HB4.out.trans ((Below.refl _ x4).drew.mono HB4.out.size))
            have hBd : Below x4.heap.size x4 x4.drew := (Below.refl _ x4).drew
            generalize x4.drew = xd at HBD hBd ⊢
            have HND := Lib.hid (HN.out.later hBd)
            have HCD := Lib.hid (HC4.out.later hBd)
            clear hBd e0 e1 e2 e3 e4 c0 c1 c2 c3
            obtain ⟨e0, e1, e2, e3, e4⟩ := HCD.out.cells
            simp only at e0 e1 e2 e3 e4
            go_wp2_with fail
            refine (CR _ HBD.out).mono ?_
            rintro e w6 ⟨he6, hB6⟩
            obtain rfl := HPL.out w6 e he6
            clear he6
            obtain ⟨wC, z1, z2, z3, z4, hwC, ⟨j1, j2, j3, j4⟩, ⟨o1, o2, o3, o4⟩, ⟨i1, i2, i3, i4⟩, HM, hBC, hsz2⟩ := nde_box ⟨k, vd, vl, vb⟩ w6
            have HM := Lib.hid HM
            simp only at j1 j2 j3 j4
            have hB8 := hB6.trans (hBC.mono hB6.size)
            have HN8 := Lib.hid (HND.out.later hB8)
            have HC8 := Lib.hid ((hcq HCD.out).later hB8)
            have HB8 := Lib.hid (HBD.out.trans (hB8.mono HBD.out.size))
            have CQ := rpath2_any ct HS2.out z4
            clear hB6 hBC hsz2 CR hB8 e0 e1 e2 e3 e4
            obtain ⟨e0, e1, e2, e3, e4⟩ := HC8.out.cells
            simp only at e0 e1 e2 e3 e4
            go_wp2_with fail
            refine CQ.mono ?_
            rintro e w10 ⟨hE, hB10⟩
            rcases hE with ⟨m', v, hq', rfl, ht, -⟩ | ⟨hno, rfl⟩
            · obtain rfl := hq'.uniq HQ.out
              obtain ⟨aa, capa, rfl, -⟩ := ht
              have HN10 := Lib.hid (HN8.out.later hB10)
              have HM10 := Lib.hid (HM.out.later hB10)
              have HC10 := Lib.hid (HC8.out.later hB10)
              have HB10 := Lib.hid (HB8.out.trans (hB10.mono HB8.out.size))
              obtain ⟨y0, y1, y2, y3⟩ := HN10.out.cells
              simp only at y0 y1 y2 y3
              have CD := CDEEP w10 HB10.out
              clear CQ hB10 hq' CDEEP e0 e1 e2 e3 e4
              go_wp2_with fail
              refine CD.mono ?_
              rintro e w11 ⟨rfl, hB11⟩
              have HN11 := Lib.hid (HN10.out.later hB11)
              have HM11 := Lib.hid (HM10.out.later hB11)
              have HC11 := Lib.hid (HC10.out.later hB11)
              have HB11 := Lib.hid (HB10.out.trans (hB11.mono HB10.out.size))
              clear CD hB11 y0 y1 y2 y3
              have HFIN := Lib.hid (RLeft.same h HB11.out)
              have hw8 := HW8.out
              clear h
              go_wp2
              go_ret
              exact ⟨rfl, HFIN.out⟩
            · exact absurd HQ.out (hno _)
          · have hlti : (ct.size : Int) > (cp.size : Int) := by omega
            have hlei : (cp.size : Int) ≤ (ct.size : Int) := by omega
            have hlen : cp.size ≤ ct.size := by omega
            clear hB1 hc1 hB2 hBB hsz CG hB4 d0 d1 d2 d3 d4
            go_wp2_with fail
            refine wp_region_held_drew (S := fun w' => w'.cell? ⟨w.heap.size, 2, none⟩ = some (.string ct) ∧ w'.cell? ⟨w.heap.size, 1, none⟩ = some (.string cp)) (by kernel_rfl) ⟨e2, e1⟩ (fun hHeld => ?_)
            refine tkH 30 (i := 0) (v := .pointer (some ⟨w.heap.size, 2, none⟩)) (h := ?_)
            simp only [Act.put, stA, st0, st1]
            refine tkH 31 (i := 1) (v := .string ct) (h := ?_)
            simp only [Act.put, stA, st0, st1]
            refine tkH 32 (i := 2) (v := .int .i64 (ct.size : Int)) (h := ?_)
            simp only [Act.put, stA, st0, st1]
            refine tkH 33 (i := 3) (v := .int .i64 (cp.size : Int)) (h := ?_)
            simp only [Act.put, stA, st0, st1]
            refine tkH 34 (i := 4) (v := .bool true) (h := ?_)
            simp only [Act.put, stA, st0, st1]
            refine tkH 35 (i := 5) (v := .bool true) (h := ?_)
            simp only [Act.put, stA, st0, st1]
            refine tkH 36 (i := 6) (v := .pointer (some ⟨w.heap.size, 2, none⟩)) (h := ?_)
            simp only [Act.put, stA, st0, st1]
            refine tkH 37 (i := 7) (v := .string ct) (h := ?_)
            simp only [Act.put, stA, st0, st1]
            refine tkH 38 (i := 8) (v := .int .i64 (cp.size : Int)) (h := ?_)
            simp only [Act.put, stA, st0, st1]
            refine tkH 39 (i := 9) (v := .string (ct.extract 0 cp.size)) (h := ?_)
            simp only [Act.put, stA, st0, st1]
            refine tkH 40 (i := 10) (v := .pointer (some ⟨w.heap.size, 1, none⟩)) (h := ?_)
            simp only [Act.put, stA, st0, st1]
            refine tkH 41 (i := 11) (v := .string cp) (h := ?_)
            simp only [Act.put, stA, st0, st1]
            refine tkH 42 (i := 12) (v := .bool false) (h := ?_)
            simp only [Act.put, stA, st0, st1]
            refine tkH 43 (i := 13) (v := .bool false) (h := ?_)
            simp only [Act.put, stA, st0, st1]
            refine tkH 44 (i := 14) (v := .bool false) (h := ?_)
            simp only [Act.put, stA, st0, st1]
            refine tkU 45 (i := 15) (v := undef) (h := ?_)
            simp only [Act.put, stA, st0, st1]
            refine tkU 46 (i := 16) (v := undef) (h := ?_)
            simp only [Act.put, stA, st0, st1]
            refine tkU 47 (i := 17) (v := undef) (h := ?_)
            simp only [Act.put, stA, st0, st1]
            refine tkU 48 (i := 18) (v := undef) (h := ?_)
            simp only [Act.put, stA, st0, st1]
            refine tkU 49 (i := 19) (v := undef) (h := ?_)
            simp only [Act.put, stA, st0, st1]
            refine tkH 50 (i := 20) (v := .bool false) (h := ?_)
            simp only [Act.put, stA, st0, st1]
            refine wpAnyH_done (by kernel_rfl) ?_ _
            clear hHeld
            have HBD := Lib.hid (HB4.out.trans ((Below.refl _ x4).drew.mono HB4.out.size))
            have hBd : Below x4.heap.size x4 x4.drew := (Below.refl _ x4).drew
            generalize x4.drew = xd at HBD hBd ⊢
            have HND := Lib.hid (HN.out.later hBd)
            have HCD := Lib.hid (HC4.out.later hBd)
            clear hBd e0 e1 e2 e3 e4 c0 c1 c2 c3
            obtain ⟨e0, e1, e2, e3, e4⟩ := HCD.out.cells
            simp only at e0 e1 e2 e3 e4
            go_wp2_with fail
            refine (CR _ HBD.out).mono ?_
            rintro e w6 ⟨he6, hB6⟩
            obtain rfl := HPL.out w6 e he6
            clear he6
            obtain ⟨wC, z1, z2, z3, z4, hwC, ⟨j1, j2, j3, j4⟩, ⟨o1, o2, o3, o4⟩, ⟨i1, i2, i3, i4⟩, HM, hBC, hsz2⟩ := nde_box ⟨k, vd, vl, vb⟩ w6
            have HM := Lib.hid HM
            simp only at j1 j2 j3 j4
            have hB8 := hB6.trans (hBC.mono hB6.size)
            have HN8 := Lib.hid (HND.out.later hB8)
            have HC8 := Lib.hid ((hcq HCD.out).later hB8)
            have HB8 := Lib.hid (HBD.out.trans (hB8.mono HBD.out.size))
            have CQ := rpath2_any ct HS2.out z4
            clear hB6 hBC hsz2 CR hB8 e0 e1 e2 e3 e4
            obtain ⟨e0, e1, e2, e3, e4⟩ := HC8.out.cells
            simp only at e0 e1 e2 e3 e4
            go_wp2_with fail
            refine CQ.mono ?_
            rintro e w10 ⟨hE, hB10⟩
            rcases hE with ⟨m', v, hq', rfl, ht, -⟩ | ⟨hno, rfl⟩
            · obtain rfl := hq'.uniq HQ.out
              obtain ⟨aa, capa, rfl, -⟩ := ht
              have HN10 := Lib.hid (HN8.out.later hB10)
              have HM10 := Lib.hid (HM.out.later hB10)
              have HC10 := Lib.hid (HC8.out.later hB10)
              have HB10 := Lib.hid (HB8.out.trans (hB10.mono HB8.out.size))
              obtain ⟨y0, y1, y2, y3⟩ := HN10.out.cells
              simp only at y0 y1 y2 y3
              have CD := CDEEP w10 HB10.out
              clear CQ hB10 hq' CDEEP e0 e1 e2 e3 e4
              go_wp2_with fail
              refine CD.mono ?_
              rintro e w11 ⟨rfl, hB11⟩
              have HN11 := Lib.hid (HN10.out.later hB11)
              have HM11 := Lib.hid (HM10.out.later hB11)
              have HC11 := Lib.hid (HC10.out.later hB11)
              have HB11 := Lib.hid (HB10.out.trans (hB11.mono HB10.out.size))
              clear CD hB11 y0 y1 y2 y3
              have HFIN := Lib.hid (RLeft.same h HB11.out)
              have hw8 := HW8.out
              clear h
              go_wp2
              go_ret
              exact ⟨rfl, HFIN.out⟩
            · exact absurd HQ.out (hno _)
          · have hlti : (ct.size : Int) > (cp.size : Int) := by omega
            have hlei : (cp.size : Int) ≤ (ct.size : Int) := by omega
            have hlen : cp.size ≤ ct.size := by omega
            have hltj : (cp.size : Int) < (ct.size : Int) := by omega
            clear hB1 hc1 hB2 hBB hsz CG hB4 d0 d1 d2 d3 d4
            go_wp2_with fail
            refine wp_region_held_drew (S := fun w' => w'.cell? ⟨w.heap.size, 2, none⟩ = some (.string ct) ∧ w'.cell? ⟨w.heap.size, 1, none⟩ = some (.string cp)) (by kernel_rfl) ⟨e2, e1⟩ (fun hHeld => ?_)
            refine tkH 30 (i := 0) (v := .pointer (some ⟨w.heap.size, 2, none⟩)) (h := ?_)
            simp only [Act.put, stA, st0, st1]
            refine tkH 31 (i := 1) (v := .string ct) (h := ?_)
            simp only [Act.put, stA, st0, st1]
            refine tkH 32 (i := 2) (v := .int .i64 (ct.size : Int)) (h := ?_)
            simp only [Act.put, stA, st0, st1]
            refine tkH 33 (i := 3) (v := .int .i64 (cp.size : Int)) (h := ?_)
            simp only [Act.put, stA, st0, st1]
            refine tkH 34 (i := 4) (v := .bool true) (h := ?_)
            simp only [Act.put, stA, st0, st1]
            refine tkH 35 (i := 5) (v := .bool true) (h := ?_)
            simp only [Act.put, stA, st0, st1]
            refine tkH 36 (i := 6) (v := .pointer (some ⟨w.heap.size, 2, none⟩)) (h := ?_)
            simp only [Act.put, stA, st0, st1]
            refine tkH 37 (i := 7) (v := .string ct) (h := ?_)
            simp only [Act.put, stA, st0, st1]
            refine tkH 38 (i := 8) (v := .int .i64 (cp.size : Int)) (h := ?_)
            simp only [Act.put, stA, st0, st1]
            refine tkH 39 (i := 9) (v := .string (ct.extract 0 cp.size)) (h := ?_)
            simp only [Act.put, stA, st0, st1]
            refine tkH 40 (i := 10) (v := .pointer (some ⟨w.heap.size, 1, none⟩)) (h := ?_)
            simp only [Act.put, stA, st0, st1]
            refine tkH 41 (i := 11) (v := .string cp) (h := ?_)
            simp only [Act.put, stA, st0, st1]
            refine tkH 42 (i := 12) (v := .bool true) (h := ?_)
            simp only [Act.put, stA, st0, st1]
            refine tkH 43 (i := 13) (v := .bool true) (h := ?_)
            simp only [Act.put, stA, st0, st1]
            refine tkH 44 (i := 14) (v := .bool true) (h := ?_)
            simp only [Act.put, stA, st0, st1]
            refine tkH 45 (i := 15) (v := .pointer (some ⟨w.heap.size, 2, none⟩)) (h := ?_)
            simp only [Act.put, stA, st0, st1]
            refine tkH 46 (i := 16) (v := .string ct) (h := ?_)
            simp only [Act.put, stA, st0, st1]
            refine tkH 47 (i := 17) (v := .int .i64 (cp.size : Int)) (h := ?_)
            simp only [Act.put, stA, st0, st1]
            refine tkH 48 (i := 18) (v := .int .u8 (ct[cp.size].toNat : Int)) (h := ?_)
            simp only [Act.put, stA, st0, st1]
            refine tkH 49 (i := 19) (v := .bool false) (h := ?_)
            simp only [Act.put, stA, st0, st1]
            refine tkH 50 (i := 20) (v := .bool false) (h := ?_)
            simp only [Act.put, stA, st0, st1]
            refine wpAnyH_done (by kernel_rfl) ?_ _
            clear hHeld
            have HBD := Lib.hid (HB4.out.trans ((Below.refl _ x4).drew.mono HB4.out.size))
            have hBd : Below x4.heap.size x4 x4.drew := (Below.refl _ x4).drew
            generalize x4.drew = xd at HBD hBd ⊢
            have HND := Lib.hid (HN.out.later hBd)
            have HCD := Lib.hid (HC4.out.later hBd)
            clear hBd e0 e1 e2 e3 e4 c0 c1 c2 c3
            obtain ⟨e0, e1, e2, e3, e4⟩ := HCD.out.cells
            simp only at e0 e1 e2 e3 e4
            go_wp2_with fail
            refine (CR _ HBD.out).mono ?_
            rintro e w6 ⟨he6, hB6⟩
            obtain rfl := HPL.out w6 e he6
            clear he6
            obtain ⟨wC, z1, z2, z3, z4, hwC, ⟨j1, j2, j3, j4⟩, ⟨o1, o2, o3, o4⟩, ⟨i1, i2, i3, i4⟩, HM, hBC, hsz2⟩ := nde_box ⟨k, vd, vl, vb⟩ w6
            have HM := Lib.hid HM
            simp only at j1 j2 j3 j4
            have hB8 := hB6.trans (hBC.mono hB6.size)
            have HN8 := Lib.hid (HND.out.later hB8)
            have HC8 := Lib.hid ((hcq HCD.out).later hB8)
            have HB8 := Lib.hid (HBD.out.trans (hB8.mono HBD.out.size))
            have CQ := rpath2_any ct HS2.out z4
            clear hB6 hBC hsz2 CR hB8 e0 e1 e2 e3 e4
            obtain ⟨e0, e1, e2, e3, e4⟩ := HC8.out.cells
            simp only at e0 e1 e2 e3 e4
            go_wp2_with fail
            refine CQ.mono ?_
            rintro e w10 ⟨hE, hB10⟩
            rcases hE with ⟨m', v, hq', rfl, ht, -⟩ | ⟨hno, rfl⟩
            · obtain rfl := hq'.uniq HQ.out
              obtain ⟨aa, capa, rfl, -⟩ := ht
              have HN10 := Lib.hid (HN8.out.later hB10)
              have HM10 := Lib.hid (HM.out.later hB10)
              have HC10 := Lib.hid (HC8.out.later hB10)
              have HB10 := Lib.hid (HB8.out.trans (hB10.mono HB8.out.size))
              obtain ⟨y0, y1, y2, y3⟩ := HN10.out.cells
              simp only at y0 y1 y2 y3
              have CD := CDEEP w10 HB10.out
              clear CQ hB10 hq' CDEEP e0 e1 e2 e3 e4
              go_wp2_with fail
              refine CD.mono ?_
              rintro e w11 ⟨rfl, hB11⟩
              have HN11 := Lib.hid (HN10.out.later hB11)
              have HM11 := Lib.hid (HM10.out.later hB11)
              have HC11 := Lib.hid (HC10.out.later hB11)
              have HB11 := Lib.hid (HB10.out.trans (hB11.mono HB10.out.size))
              clear CD hB11 y0 y1 y2 y3
              have HFIN := Lib.hid (RLeft.same h HB11.out)
              have hw8 := HW8.out
              clear h
              go_wp2
              go_ret
              exact ⟨rfl, HFIN.out⟩
            · exact absurd HQ.out (hno _)
        · rw [hv]
          simp only
          obtain ⟨Z, hZ⟩ : ∃ z : Int, ((m.length : Nat) : Int) + (dp : Int) = z := ⟨_, rfl⟩
          have h8i : ¬ Z > 8 := by omega
          have h8j : ¬ 8 < Z := by omega
          have HW9 := Lib.hid (HW8.out.trans hZ)
          obtain ⟨d, hd, hdd, hdk, hwd, hraw, hall⟩ := del_parts hG hl hw
          have CUP := fun (W : World) (hB : Below w.heap.size w W) => rup_any (HH.out.later hB) HGD.out.formed hs hp hl hwd
          have CDEL := fun (W : World) (hB : Below w.heap.size w W) => rnameDel_any (HH.out.later hB) HGD.out.formed.rawN hd hdd (lastOf l)
          obtain ⟨u', hu', _, hud', _, _, hul', huk'⟩ := hall k u hu
          obtain ⟨T1, hT1⟩ : ∃ T1, nameDel T (upOf T l) (lastOf l) = T1 := ⟨_, rfl⟩
          rw [hT1] at CDEL hraw hu' ⊢
          have hnum := hG.formed.num x hm
          have CPT := fun (W : World) (lv1 : Value) (h1 : RTIs tb lv1 T1 W) => rnamePut_any h1 hraw hu' (hud'.trans hud) (k := x.num) hnum hso (huk' s huk) (by omega)
          rw [hrn] at CPT ⊢
          obtain ⟨UP, hUP⟩ : ∃ z, upOf T l = z := ⟨_, rfl⟩
          obtain ⟨LS, hLS⟩ : ∃ z, lastOf l = z := ⟨_, rfl⟩
          rw [hUP, hLS] at CUP CDEL
          have HTB := Lib.hid (show tb < w.heap.size from h.lt)
          clear h hG hp hs hs2 hg hv hR hx hm hq hl hrn hw hun hup hpl hu hud huk hul hso hU hvn hfit hdp hm8 h8 hdle hd hdd hdk hwd hraw hall hu' hud' hul' huk' hT1 hnum hUP hLS hZ
          go_enter Tryz.func32, Tryz.ntmps32
          go_wp2_with fail
          refine CG.mono ?_
          rintro e w2 ⟨rfl, hB2⟩
          obtain ⟨wA, x1, x2, x3, x4, hwA, ⟨k1, k2, k3, k4⟩, ⟨p1, p2, p3, p4⟩, ⟨r1, r2, r3, r4⟩, HN, hBB, hsz⟩ := nde_box ⟨rn, rd, rl, rb⟩ w2
          have HN := Lib.hid HN
          simp only at k1 k2 k3 k4
          have hB4 := hB2.trans (hBB.mono hB2.size)
          have HB4 := Lib.hid (hB1.trans (hB4.mono hB1.size))
          have HC4 := Lib.hid (hc1.later hB4)
          obtain ⟨e0, e1, e2, e3, e4⟩ := HC4.out.cells
          obtain ⟨c0, c1, c2, c3⟩ := HN.out.cells
          simp only at e0 e1 e2 e3 e4 c0 c1 c2 c3
          have HWN := Lib.hid (show w.heap.size ≤ w2.heap.size from Nat.le_trans hB1.size hB2.size)
          rcases hpre with hlt | ⟨hlt, heq | ⟨heq, hby⟩⟩
          · have hlti : ¬ (ct.size : Int) > (cp.size : Int) := by omega
            have hle0 : ct.size ≤ cp.size := by omega
            clear hlt
            clear hB1 hc1 hB2 hBB hsz CG hB4 d0 d1 d2 d3 d4
            go_wp2_with fail
            refine wp_region_held_drew (S := fun w' => w'.cell? ⟨w.heap.size, 2, none⟩ = some (.string ct) ∧ w'.cell? ⟨w.heap.size, 1, none⟩ = some (.string cp)) (by kernel_rfl) ⟨e2, e1⟩ (fun hHeld => ?_)
            refine tkH 30 (i := 0) (v := .pointer (some ⟨w.heap.size, 2, none⟩)) (h := ?_)
            simp only [Act.put, stA, st0, st1]
            refine tkH 31 (i := 1) (v := .string ct) (h := ?_)
            simp only [Act.put, stA, st0, st1]
            refine tkH 32 (i := 2) (v := .int .i64 (ct.size : Int)) (h := ?_)
            simp only [Act.put, stA, st0, st1]
            refine tkH 33 (i := 3) (v := .int .i64 (cp.size : Int)) (h := ?_)
            simp only [Act.put, stA, st0, st1]
            refine tkH 34 (i := 4) (v := .bool false) (h := ?_)
            simp only [Act.put, stA, st0, st1]
            refine tkH 35 (i := 5) (v := .bool false) (h := ?_)
            simp only [Act.put, stA, st0, st1]
            refine tkU 36 (i := 6) (v := undef) (h := ?_)
            simp only [Act.put, stA, st0, st1]
            refine tkU 37 (i := 7) (v := undef) (h := ?_)
            simp only [Act.put, stA, st0, st1]
            refine tkU 38 (i := 8) (v := undef) (h := ?_)
            simp only [Act.put, stA, st0, st1]
            refine tkU 39 (i := 9) (v := undef) (h := ?_)
            simp only [Act.put, stA, st0, st1]
            refine tkU 40 (i := 10) (v := undef) (h := ?_)
            simp only [Act.put, stA, st0, st1]
            refine tkU 41 (i := 11) (v := undef) (h := ?_)
            simp only [Act.put, stA, st0, st1]
            refine tkU 42 (i := 12) (v := undef) (h := ?_)
            simp only [Act.put, stA, st0, st1]
            refine tkH 43 (i := 13) (v := .bool false) (h := ?_)
            simp only [Act.put, stA, st0, st1]
            refine tkH 44 (i := 14) (v := .bool false) (h := ?_)
            simp only [Act.put, stA, st0, st1]
            refine tkU 45 (i := 15) (v := undef) (h := ?_)
            simp only [Act.put, stA, st0, st1]
            refine tkU 46 (i := 16) (v := undef) (h := ?_)
            simp only [Act.put, stA, st0, st1]
            refine tkU 47 (i := 17) (v := undef) (h := ?_)
            simp only [Act.put, stA, st0, st1]
            refine tkU 48 (i := 18) (v := undef) (h := ?_)
            simp only [Act.put, stA, st0, st1]
            refine tkU 49 (i := 19) (v := undef) (h := ?_)
            simp only [Act.put, stA, st0, st1]
            refine tkH 50 (i := 20) (v := .bool false) (h := ?_)
            simp only [Act.put, stA, st0, st1]
            refine wpAnyH_done (by kernel_rfl) ?_ _
            clear hHeld
            have HBD := Lib.hid (HB4.out.trans ((Below.refl _ x4).drew.mono HB4.out.size))
            have hBd : Below x4.heap.size x4 x4.drew := (Below.refl _ x4).drew
            generalize x4.drew = xd at HBD hBd ⊢
            have HND := Lib.hid (HN.out.later hBd)
            have HCD := Lib.hid (HC4.out.later hBd)
            clear hBd e0 e1 e2 e3 e4 c0 c1 c2 c3
            obtain ⟨e0, e1, e2, e3, e4⟩ := HCD.out.cells
            simp only at e0 e1 e2 e3 e4
            go_wp2_with fail
            refine (CR _ HBD.out).mono ?_
            rintro e w6 ⟨he6, hB6⟩
            obtain rfl := HPL.out w6 e he6
            clear he6
            obtain ⟨wC, z1, z2, z3, z4, hwC, ⟨j1, j2, j3, j4⟩, ⟨o1, o2, o3, o4⟩, ⟨i1, i2, i3, i4⟩, HM, hBC, hsz2⟩ := nde_box ⟨k, vd, vl, vb⟩ w6
            have HM := Lib.hid HM
            simp only at j1 j2 j3 j4
            have hw6s := hB6.size
            have hB8 := hB6.trans (hBC.mono hB6.size)
            have HN8 := Lib.hid (HND.out.later hB8)
            have HC8 := Lib.hid ((hcq HCD.out).later hB8)
            have HB8 := Lib.hid (HBD.out.trans (hB8.mono HBD.out.size))
            have CQ := rpath2_any ct HS2.out z4
            clear hB6 hBC hsz2 CR hB8 e0 e1 e2 e3 e4
            obtain ⟨e0, e1, e2, e3, e4⟩ := HC8.out.cells
            simp only at e0 e1 e2 e3 e4
            go_wp2_with fail
            refine CQ.mono ?_
            rintro e w10 ⟨hE, hB10⟩
            rcases hE with ⟨m', v, hq', rfl, ht, -⟩ | ⟨hno, rfl⟩
            · obtain rfl := hq'.uniq HQ.out
              obtain ⟨aa, capa, rfl, -⟩ := ht
              have HN10 := Lib.hid (HN8.out.later hB10)
              have HM10 := Lib.hid (HM.out.later hB10)
              have HC10 := Lib.hid (HC8.out.later hB10)
              have HB10 := Lib.hid (HB8.out.trans (hB10.mono HB8.out.size))
              obtain ⟨y0, y1, y2, y3⟩ := HN10.out.cells
              simp only at y0 y1 y2 y3
              have CD := CDEEP w10 HB10.out
              clear CQ hB10 hq' CDEEP e0 e1 e2 e3 e4
              go_wp2_with fail
              refine CD.mono ?_
              rintro e w11 ⟨rfl, hB11⟩
              have HN11 := Lib.hid (HN10.out.later hB11)
              have HM11 := Lib.hid (HM10.out.later hB11)
              have HC11 := Lib.hid (HC10.out.later hB11)
              have HB11 := Lib.hid (HB10.out.trans (hB11.mono HB10.out.size))
              clear CD hB11 y0 y1 y2 y3
              have HWM := Lib.hid (show w.heap.size ≤ w6.heap.size from Nat.le_trans HBD.out.size hw6s)
              have CU := CUP w11 HB11.out
              obtain ⟨e0, e1, e2, e3, e4⟩ := HC11.out.cells
              simp only at e0 e1 e2 e3 e4
              have hw8 := HW9.out
              clear CUP
              go_wp2_with fail
              clear hw8
              refine CU.mono ?_
              rintro e w12 ⟨rfl, hB12⟩
              have HN12 := Lib.hid (HN11.out.later hB12)
              have HM12 := Lib.hid (HM11.out.later hB12)
              have HB12 := Lib.hid (HB11.out.trans (hB12.mono HB11.out.size))
              have CA := CDEL w12 HB12.out
              clear CU hB12 CDEL e0 e1 e2 e3 e4
              go_wp2_with fail
              refine CA.mono ?_
              rintro e w13 ⟨rfl, h13⟩
              obtain ⟨lv1, hr1, hs13, hf1⟩ := h13
              have HN13 := Lib.hid (HN12.out.keep hs13 (fun e => by have := HTB.out; have := HWN.out; omega))
              have HM13 := Lib.hid (HM12.out.keep hs13 (fun e => by have := HTB.out; have := HWM.out; omega))
              obtain ⟨y0, -, -, -⟩ := HN13.out.cells
              obtain ⟨m0, -, -, -⟩ := HM13.out.cells
              simp only at y0 m0
              have CB := CPT w13 lv1 hr1
              have HL := Lib.hid (And.intro hs13 hf1)
              clear CA CPT hr1 hs13 hf1
              go_wp2_with fail
              refine CB.mono ?_
              rintro e w14 ⟨rfl, h14⟩
              have HFIN := Lib.hid (RLeft.start HB12.out (RLeft.trans HL.out.2 HL.out.1 h14))
              clear CB h14
              go_wp2
              go_ret
              exact ⟨rfl, HFIN.out⟩
            · exact absurd HQ.out (hno _)
          · have hlti : (ct.size : Int) > (cp.size : Int) := by omega
            have hlei : (cp.size : Int) ≤ (ct.size : Int) := by omega
            have hlen : cp.size ≤ ct.size := by omega
            clear hB1 hc1 hB2 hBB hsz CG hB4 d0 d1 d2 d3 d4
            go_wp2_with fail
            refine wp_region_held_drew (S := fun w' => w'.cell? ⟨w.heap.size, 2, none⟩ = some (.string ct) ∧ w'.cell? ⟨w.heap.size, 1, none⟩ = some (.string cp)) (by kernel_rfl) ⟨e2, e1⟩ (fun hHeld => ?_)
            refine tkH 30 (i := 0) (v := .pointer (some ⟨w.heap.size, 2, none⟩)) (h := ?_)
            simp only [Act.put, stA, st0, st1]
            refine tkH 31 (i := 1) (v := .string ct) (h := ?_)
            simp only [Act.put, stA, st0, st1]
            refine tkH 32 (i := 2) (v := .int .i64 (ct.size : Int)) (h := ?_)
            simp only [Act.put, stA, st0, st1]
            refine tkH 33 (i := 3) (v := .int .i64 (cp.size : Int)) (h := ?_)
            simp only [Act.put, stA, st0, st1]
            refine tkH 34 (i := 4) (v := .bool true) (h := ?_)
            simp only [Act.put, stA, st0, st1]
            refine tkH 35 (i := 5) (v := .bool true) (h := ?_)
            simp only [Act.put, stA, st0, st1]
            refine tkH 36 (i := 6) (v := .pointer (some ⟨w.heap.size, 2, none⟩)) (h := ?_)
            simp only [Act.put, stA, st0, st1]
            refine tkH 37 (i := 7) (v := .string ct) (h := ?_)
            simp only [Act.put, stA, st0, st1]
            refine tkH 38 (i := 8) (v := .int .i64 (cp.size : Int)) (h := ?_)
            simp only [Act.put, stA, st0, st1]
            refine tkH 39 (i := 9) (v := .string (ct.extract 0 cp.size)) (h := ?_)
            simp only [Act.put, stA, st0, st1]
            refine tkH 40 (i := 10) (v := .pointer (some ⟨w.heap.size, 1, none⟩)) (h := ?_)
            simp only [Act.put, stA, st0, st1]
            refine tkH 41 (i := 11) (v := .string cp) (h := ?_)
            simp only [Act.put, stA, st0, st1]
            refine tkH 42 (i := 12) (v := .bool false) (h := ?_)
            simp only [Act.put, stA, st0, st1]
            refine tkH 43 (i := 13) (v := .bool false) (h := ?_)
            simp only [Act.put, stA, st0, st1]
            refine tkH 44 (i := 14) (v := .bool false) (h := ?_)
            simp only [Act.put, stA, st0, st1]
            refine tkU 45 (i := 15) (v := undef) (h := ?_)
            simp only [Act.put, stA, st0, st1]
            refine tkU 46 (i := 16) (v := undef) (h := ?_)
            simp only [Act.put, stA, st0, st1]
            refine tkU 47 (i := 17) (v := undef) (h := ?_)
            simp only [Act.put, stA, st0, st1]
            refine tkU 48 (i := 18) (v := undef) (h := ?_)
            simp only [Act.put, stA, st0, st1]
            refine tkU 49 (i := 19) (v := undef) (h := ?_)
            simp only [Act.put, stA, st0, st1]
            refine tkH 50 (i := 20) (v := .bool false) (h := ?_)
            simp only [Act.put, stA, st0, st1]
            refine wpAnyH_done (by kernel_rfl) ?_ _
            clear hHeld
            have HBD := Lib.hid (HB4.out.trans ((Below.refl _ x4).drew.mono HB4.out.size))
            have hBd : Below x4.heap.size x4 x4.drew := (Below.refl _ x4).drew
            generalize x4.drew = xd at HBD hBd ⊢
            have HND := Lib.hid (HN.out.later hBd)
            have HCD := Lib.hid (HC4.out.later hBd)
            clear hBd e0 e1 e2 e3 e4 c0 c1 c2 c3
            obtain ⟨e0, e1, e2, e3, e4⟩ := HCD.out.cells
            simp only at e0 e1 e2 e3 e4
            go_wp2_with fail
            refine (CR _ HBD.out).mono ?_
            rintro e w6 ⟨he6, hB6⟩
            obtain rfl := HPL.out w6 e he6
            clear he6
            obtain ⟨wC, z1, z2, z3, z4, hwC, ⟨j1, j2, j3, j4⟩, ⟨o1, o2, o3, o4⟩, ⟨i1, i2, i3, i4⟩, HM, hBC, hsz2⟩ := nde_box ⟨k, vd, vl, vb⟩ w6
            have HM := Lib.hid HM
            simp only at j1 j2 j3 j4
            have hw6s := hB6.size
            have hB8 := hB6.trans (hBC.mono hB6.size)
            have HN8 := Lib.hid (HND.out.later hB8)
            have HC8 := Lib.hid ((hcq HCD.out).later hB8)
            have HB8 := Lib.hid (HBD.out.trans (hB8.mono HBD.out.size))
            have CQ := rpath2_any ct HS2.out z4
            clear hB6 hBC hsz2 CR hB8 e0 e1 e2 e3 e4
            obtain ⟨e0, e1, e2, e3, e4⟩ := HC8.out.cells
            simp only at e0 e1 e2 e3 e4
            go_wp2_with fail
            refine CQ.mono ?_
            rintro e w10 ⟨hE, hB10⟩
            rcases hE with ⟨m', v, hq', rfl, ht, -⟩ | ⟨hno, rfl⟩
            · obtain rfl := hq'.uniq HQ.out
              obtain ⟨aa, capa, rfl, -⟩ := ht
              have HN10 := Lib.hid (HN8.out.later hB10)
              have HM10 := Lib.hid (HM.out.later hB10)
              have HC10 := Lib.hid (HC8.out.later hB10)
              have HB10 := Lib.hid (HB8.out.trans (hB10.mono HB8.out.size))
              obtain ⟨y0, y1, y2, y3⟩ := HN10.out.cells
              simp only at y0 y1 y2 y3
              have CD := CDEEP w10 HB10.out
              clear CQ hB10 hq' CDEEP e0 e1 e2 e3 e4
              go_wp2_with fail
              refine CD.mono ?_
              rintro e w11 ⟨rfl, hB11⟩
              have HN11 := Lib.hid (HN10.out.later hB11)
              have HM11 := Lib.hid (HM10.out.later hB11)
              have HC11 := Lib.hid (HC10.out.later hB11)
              have HB11 := Lib.hid (HB10.out.trans (hB11.mono HB10.out.size))
              clear CD hB11 y0 y1 y2 y3
              have HWM := Lib.hid (show w.heap.size ≤ w6.heap.size from Nat.le_trans HBD.out.size hw6s)
              have CU := CUP w11 HB11.out
              obtain ⟨e0, e1, e2, e3, e4⟩ := HC11.out.cells
              simp only at e0 e1 e2 e3 e4
              have hw8 := HW9.out
              clear CUP
              go_wp2_with fail
              clear hw8
              refine CU.mono ?_
              rintro e w12 ⟨rfl, hB12⟩
              have HN12 := Lib.hid (HN11.out.later hB12)
              have HM12 := Lib.hid (HM11.out.later hB12)
              have HB12 := Lib.hid (HB11.out.trans (hB12.mono HB11.out.size))
              have CA := CDEL w12 HB12.out
              clear CU hB12 CDEL e0 e1 e2 e3 e4
              go_wp2_with fail
              refine CA.mono ?_
              rintro e w13 ⟨rfl, h13⟩
              obtain ⟨lv1, hr1, hs13, hf1⟩ := h13
              have HN13 := Lib.hid (HN12.out.keep hs13 (fun e => by have := HTB.out; have := HWN.out; omega))
              have HM13 := Lib.hid (HM12.out.keep hs13 (fun e => by have := HTB.out; have := HWM.out; omega))
              obtain ⟨y0, -, -, -⟩ := HN13.out.cells
              obtain ⟨m0, -, -, -⟩ := HM13.out.cells
              simp only at y0 m0
              have CB := CPT w13 lv1 hr1
              have HL := Lib.hid (And.intro hs13 hf1)
              clear CA CPT hr1 hs13 hf1
              go_wp2_with fail
              refine CB.mono ?_
              rintro e w14 ⟨rfl, h14⟩
              have HFIN := Lib.hid (RLeft.start HB12.out (RLeft.trans HL.out.2 HL.out.1 h14))
              clear CB h14
              go_wp2
              go_ret
              exact ⟨rfl, HFIN.out⟩
            · exact absurd HQ.out (hno _)
          · have hlti : (ct.size : Int) > (cp.size : Int) := by omega
            have hlei : (cp.size : Int) ≤ (ct.size : Int) := by omega
            have hlen : cp.size ≤ ct.size := by omega
            have hltj : (cp.size : Int) < (ct.size : Int) := by omega
            clear hB1 hc1 hB2 hBB hsz CG hB4 d0 d1 d2 d3 d4
            go_wp2_with fail
            refine wp_region_held_drew (S := fun w' => w'.cell? ⟨w.heap.size, 2, none⟩ = some (.string ct) ∧ w'.cell? ⟨w.heap.size, 1, none⟩ = some (.string cp)) (by kernel_rfl) ⟨e2, e1⟩ (fun hHeld => ?_)
            refine tkH 30 (i := 0) (v := .pointer (some ⟨w.heap.size, 2, none⟩)) (h := ?_)
            simp only [Act.put, stA, st0, st1]
            refine tkH 31 (i := 1) (v := .string ct) (h := ?_)
            simp only [Act.put, stA, st0, st1]
            refine tkH 32 (i := 2) (v := .int .i64 (ct.size : Int)) (h := ?_)
            simp only [Act.put, stA, st0, st1]
            refine tkH 33 (i := 3) (v := .int .i64 (cp.size : Int)) (h := ?_)
            simp only [Act.put, stA, st0, st1]
            refine tkH 34 (i := 4) (v := .bool true) (h := ?_)
            simp only [Act.put, stA, st0, st1]
            refine tkH 35 (i := 5) (v := .bool true) (h := ?_)
            simp only [Act.put, stA, st0, st1]
            refine tkH 36 (i := 6) (v := .pointer (some ⟨w.heap.size, 2, none⟩)) (h := ?_)
            simp only [Act.put, stA, st0, st1]
            refine tkH 37 (i := 7) (v := .string ct) (h := ?_)
            simp only [Act.put, stA, st0, st1]
            refine tkH 38 (i := 8) (v := .int .i64 (cp.size : Int)) (h := ?_)
            simp only [Act.put, stA, st0, st1]
            refine tkH 39 (i := 9) (v := .string (ct.extract 0 cp.size)) (h := ?_)
            simp only [Act.put, stA, st0, st1]
            refine tkH 40 (i := 10) (v := .pointer (some ⟨w.heap.size, 1, none⟩)) (h := ?_)
            simp only [Act.put, stA, st0, st1]
            refine tkH 41 (i := 11) (v := .string cp) (h := ?_)
            simp only [Act.put, stA, st0, st1]
            refine tkH 42 (i := 12) (v := .bool true) (h := ?_)
            simp only [Act.put, stA, st0, st1]
            refine tkH 43 (i := 13) (v := .bool true) (h := ?_)
            simp only [Act.put, stA, st0, st1]
            refine tkH 44 (i := 14) (v := .bool true) (h := ?_)
            simp only [Act.put, stA, st0, st1]
            refine tkH 45 (i := 15) (v := .pointer (some ⟨w.heap.size, 2, none⟩)) (h := ?_)
            simp only [Act.put, stA, st0, st1]
            refine tkH 46 (i := 16) (v := .string ct) (h := ?_)
            simp only [Act.put, stA, st0, st1]
            refine tkH 47 (i := 17) (v := .int .i64 (cp.size : Int)) (h := ?_)
            simp only [Act.put, stA, st0, st1]
            refine tkH 48 (i := 18) (v := .int .u8 (ct[cp.size].toNat : Int)) (h := ?_)
            simp only [Act.put, stA, st0, st1]
            refine tkH 49 (i := 19) (v := .bool false) (h := ?_)
            simp only [Act.put, stA, st0, st1]
            refine tkH 50 (i := 20) (v := .bool false) (h := ?_)
            simp only [Act.put, stA, st0, st1]
            refine wpAnyH_done (by kernel_rfl) ?_ _
            clear hHeld
            have HBD := Lib.hid (HB4.out.trans ((Below.refl _ x4).drew.mono HB4.out.size))
            have hBd : Below x4.heap.size x4 x4.drew := (Below.refl _ x4).drew
            generalize x4.drew = xd at HBD hBd ⊢
            have HND := Lib.hid (HN.out.later hBd)
            have HCD := Lib.hid (HC4.out.later hBd)
            clear hBd e0 e1 e2 e3 e4 c0 c1 c2 c3
            obtain ⟨e0, e1, e2, e3, e4⟩ := HCD.out.cells
            simp only at e0 e1 e2 e3 e4
            go_wp2_with fail
            refine (CR _ HBD.out).mono ?_
            rintro e w6 ⟨he6, hB6⟩
            obtain rfl := HPL.out w6 e he6
            clear he6
            obtain ⟨wC, z1, z2, z3, z4, hwC, ⟨j1, j2, j3, j4⟩, ⟨o1, o2, o3, o4⟩, ⟨i1, i2, i3, i4⟩, HM, hBC, hsz2⟩ := nde_box ⟨k, vd, vl, vb⟩ w6
            have HM := Lib.hid HM
            simp only at j1 j2 j3 j4
            have hw6s := hB6.size
            have hB8 := hB6.trans (hBC.mono hB6.size)
            have HN8 := Lib.hid (HND.out.later hB8)
            have HC8 := Lib.hid ((hcq HCD.out).later hB8)
            have HB8 := Lib.hid (HBD.out.trans (hB8.mono HBD.out.size))
            have CQ := rpath2_any ct HS2.out z4
            clear hB6 hBC hsz2 CR hB8 e0 e1 e2 e3 e4
            obtain ⟨e0, e1, e2, e3, e4⟩ := HC8.out.cells
            simp only at e0 e1 e2 e3 e4
            go_wp2_with fail
            refine CQ.mono ?_
            rintro e w10 ⟨hE, hB10⟩
            rcases hE with ⟨m', v, hq', rfl, ht, -⟩ | ⟨hno, rfl⟩
            · obtain rfl := hq'.uniq HQ.out
              obtain ⟨aa, capa, rfl, -⟩ := ht
              have HN10 := Lib.hid (HN8.out.later hB10)
              have HM10 := Lib.hid (HM.out.later hB10)
              have HC10 := Lib.hid (HC8.out.later hB10)
              have HB10 := Lib.hid (HB8.out.trans (hB10.mono HB8.out.size))
              obtain ⟨y0, y1, y2, y3⟩ := HN10.out.cells
              simp only at y0 y1 y2 y3
              have CD := CDEEP w10 HB10.out
              clear CQ hB10 hq' CDEEP e0 e1 e2 e3 e4
              go_wp2_with fail
              refine CD.mono ?_
              rintro e w11 ⟨rfl, hB11⟩
              have HN11 := Lib.hid (HN10.out.later hB11)
              have HM11 := Lib.hid (HM10.out.later hB11)
              have HC11 := Lib.hid (HC10.out.later hB11)
              have HB11 := Lib.hid (HB10.out.trans (hB11.mono HB10.out.size))
              clear CD hB11 y0 y1 y2 y3
              have HWM := Lib.hid (show w.heap.size ≤ w6.heap.size from Nat.le_trans HBD.out.size hw6s)
              have CU := CUP w11 HB11.out
              obtain ⟨e0, e1, e2, e3, e4⟩ := HC11.out.cells
              simp only at e0 e1 e2 e3 e4
              have hw8 := HW9.out
              clear CUP
              go_wp2_with fail
              clear hw8
              refine CU.mono ?_
              rintro e w12 ⟨rfl, hB12⟩
              have HN12 := Lib.hid (HN11.out.later hB12)
              have HM12 := Lib.hid (HM11.out.later hB12)
              have HB12 := Lib.hid (HB11.out.trans (hB12.mono HB11.out.size))
              have CA := CDEL w12 HB12.out
              clear CU hB12 CDEL e0 e1 e2 e3 e4
              go_wp2_with fail
              refine CA.mono ?_
              rintro e w13 ⟨rfl, h13⟩
              obtain ⟨lv1, hr1, hs13, hf1⟩ := h13
              have HN13 := Lib.hid (HN12.out.keep hs13 (fun e => by have := HTB.out; have := HWN.out; omega))
              have HM13 := Lib.hid (HM12.out.keep hs13 (fun e => by have := HTB.out; have := HWM.out; omega))
              obtain ⟨y0, -, -, -⟩ := HN13.out.cells
              obtain ⟨m0, -, -, -⟩ := HM13.out.cells
              simp only at y0 m0
              have CB := CPT w13 lv1 hr1
              have HL := Lib.hid (And.intro hs13 hf1)
              clear CA CPT hr1 hs13 hf1
              go_wp2_with fail
              refine CB.mono ?_
              rintro e w14 ⟨rfl, h14⟩
              have HFIN := Lib.hid (RLeft.start HB12.out (RLeft.trans HL.out.2 HL.out.1 h14))
              clear CB h14
              go_wp2
              go_ret
              exact ⟨rfl, HFIN.out⟩
            · exact absurd HQ.out (hno _)
end
end Go.Proofs.YtfokdmijkniomaaGreatDoor

