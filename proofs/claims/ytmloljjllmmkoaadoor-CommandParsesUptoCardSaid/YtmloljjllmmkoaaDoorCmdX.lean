/-
  What the laws of layer 13 fix.
-/
import Derived.Test.YtmloljjllmmkoaaDoorCmdI
import Derived.Test.YtmloljjllmmkoaaDoorKitT
import Derived.Lib.ItoaLen
namespace Go.Proofs.YtmloljjllmmkoaaDoor
open Go.RowKit Go

/-! ### Closed calls -/
def fixW : Cmd := ⟨2, ⟨#[47, 97]⟩, ⟨#[]⟩, 5, ⟨#[0, 255]⟩⟩
def fixS : Cmd := ⟨7, ⟨#[120]⟩, ⟨#[]⟩, 0, ⟨#[]⟩⟩
def fixM : Cmd := ⟨0, ⟨#[47, 97]⟩, ⟨#[]⟩, 1, ⟨#[]⟩⟩
theorem name_a : NameOk ⟨#[97]⟩ := by unfold NameOk; decide
theorem name_b : NameOk ⟨#[98]⟩ := by unfold NameOk; decide
theorem name_x : NameOk ⟨#[120]⟩ := by unfold NameOk; decide
theorem path_a : IsPath ⟨#[47, 97]⟩ [⟨#[97]⟩] := ⟨by simpa using name_a, by simp, .inr ⟨by simp, rfl⟩⟩
theorem path_ab : IsPath ⟨#[47, 97, 47, 98]⟩ [⟨#[97]⟩, ⟨#[98]⟩] := ⟨by simpa using ⟨name_a, name_b⟩, by simp, .inr ⟨by simp, rfl⟩⟩
theorem no_path_a (l : List ByteArray) : ¬ IsPath ⟨#[97]⟩ l := by
  intro h
  rcases h.2.2 with ⟨_, e⟩ | ⟨_, e⟩
  · revert e; decide
  · have := (List.cons.inj e).1
    revert this; decide
theorem itoa_5 : Lib.itoa 5 = [53] := by
  have : Lib.itoa ((5 : Nat) : Int) = Lib.decDigits 5 := Lib.itoa_nonneg 5
  rw [show (5 : Int) = ((5 : Nat) : Int) from rfl, this, Lib.decDigits_one (by omega)]
  rfl
theorem mayW : MayK fixW 2 := ⟨⟨_, path_a⟩, rfl, ⟨by decide, by decide⟩, by decide⟩
theorem mayS : MayK fixS 7 := ⟨name_x, rfl, rfl, rfl⟩
theorem lineW : bs (lineK 2 fixW) = ⟨#[119, 114, 105, 116, 101, 32, 47, 97, 32, 53, 32, 48, 48, 102, 102]⟩ := by
  have h : lineK 2 fixW = [119, 114, 105, 116, 101] ++ 32 :: ([47, 97] ++ 32 :: ((bs (Lib.itoa 5)).data.toList ++ 32 :: (bs (hexW [0, 255])).data.toList)) := rfl
  rw [h, bs_list, bs_list, itoa_5]
  rfl
theorem lineS : bs (lineK 7 fixS) = ⟨#[115, 110, 97, 112, 32, 120]⟩ := rfl
theorem isLineW : IsLine fixW ⟨#[119, 114, 105, 116, 101, 32, 47, 97, 32, 53, 32, 48, 48, 102, 102]⟩ := by rw [← lineW]; exact line_self (by omega) rfl mayW
theorem noM : ¬ MayC fixM := by
  rintro ⟨k, hk, hc, hm⟩
  have h0 : (0 : Int) = k := hc
  obtain rfl : k = 0 := by omega
  have : (1 : Int) = 0 := hm.2.2.1
  omega
theorem noCut (d : Cmd) : ¬ IsLine d ⟨#[99, 117, 116, 32, 47, 97, 32, 48, 53]⟩ := by
  intro h
  obtain ⟨k, hk, h1, h2, h3⟩ := h.words
  have hp : Parts 32 ⟨#[99, 117, 116, 32, 47, 97, 32, 48, 53]⟩ [⟨#[99, 117, 116]⟩, ⟨#[47, 97]⟩, ⟨#[48, 53]⟩] := ⟨by simp, by simp [NoB], rfl⟩
  have e := h3.uniq hp
  have ew := (List.cons.inj e).1
  obtain rfl : k = 3 := wordK_inj hk (by omega) ew
  have e2 := (List.cons.inj (List.cons.inj (List.cons.inj e).2).2).1
  have e3 : bs (Lib.itoa d.place) = ⟨#[48, 53]⟩ := e2
  have hat : AtW d.place ⟨#[48, 53]⟩ := ⟨h2.2.2.1.1, h2.2.2.1.2, by rw [← e3, bs_list]⟩
  have h5 : Lib.atoiAll [48, 53] = .ok 5 := by decide +kernel
  have hv := hat.atoi
  have : (Lib.NumEnd.ok d.place) = .ok 5 := hv.symm.trans h5
  have hd := Lib.NumEnd.ok.inj this
  rw [hd] at e3
  rw [itoa_5] at e3
  have := congrArg ByteArray.size e3
  revert this; decide
theorem cmdIn_of {c : Cmd} (h1 : IntOk c.kind) (h2 : IntOk c.place) (h3 : c.path.size ≤ 1000) (h4 : c.dest.size ≤ 1000) (h5 : c.data.size ≤ 1000) : CmdIn c := ⟨h1, h2, by omega, by omega, by omega⟩
theorem line_le {c : Cmd} {k : Nat} (hk : k < 9) (hp : IntOk c.place) (hd : c.data.size ≤ 512) : (lineK k c).length ≤ 7 + c.path.size + c.dest.size + 1100 := by
  have h1 : c.path.data.toList.length = c.path.size := Array.length_toList (xs := c.path.data)
  have h2 : c.dest.data.toList.length = c.dest.size := Array.length_toList (xs := c.dest.data)
  have h3 : (Lib.itoa c.place).length ≤ 21 := Lib.itoa_length_le _ hp.1 hp.2
  have h4 : (hexW c.data.data.toList).length ≤ 1024 := by
    have h5 : c.data.data.toList.length = c.data.size := Array.length_toList (xs := c.data.data)
    unfold hexW
    split
    · simp
    · rw [flat_hex_len]; omega
  rcases below9 hk with rfl | rfl | rfl | rfl | rfl | rfl | rfl | rfl | rfl <;>
    simp only [lineK, wordsC, fldK, List.map_cons, List.map_nil, fldLay, joinB, wordK, List.length_append, List.length_cons, bs_list, List.length_nil] <;> omega
theorem printW (w : World) (hg : GE w) : Calls Tryd.prog 13 #[.agg #[.int .i64 2, .string ⟨#[47, 97]⟩, .string ⟨#[]⟩, .int .i64 5, .string ⟨#[0, 255]⟩]] w fun e w' => e = .returned (.tuple #[.string ⟨#[119, 114, 105, 116, 101, 32, 47, 97, 32, 53, 32, 48, 48, 102, 102]⟩, .int .i64 0]) ∧ Below w.heap.size w w' := by
  refine (print_any fixW (cmdIn_of ⟨by decide, by decide⟩ ⟨by decide, by decide⟩ (by decide) (by decide) (by decide)) (fun k hk hd => Nat.le_trans (line_le hk ⟨by decide, by decide⟩ hd) (by decide)) w hg).mono ?_
  rintro e w' ⟨h, hB⟩
  refine ⟨?_, hB⟩
  rcases h with ⟨k, hk, hc, _, rfl⟩ | ⟨hn, _⟩
  · have h2 : (2 : Int) = k := hc
    obtain rfl : k = 2 := by omega
    rw [lineW]
  · exact absurd ⟨2, by omega, rfl, mayW⟩ hn
theorem printS (w : World) (hg : GE w) : Calls Tryd.prog 13 #[.agg #[.int .i64 7, .string ⟨#[120]⟩, .string ⟨#[]⟩, .int .i64 0, .string ⟨#[]⟩]] w fun e w' => e = .returned (.tuple #[.string ⟨#[115, 110, 97, 112, 32, 120]⟩, .int .i64 0]) ∧ Below w.heap.size w w' := by
  refine (print_any fixS (cmdIn_of ⟨by decide, by decide⟩ ⟨by decide, by decide⟩ (by decide) (by decide) (by decide)) (fun k hk hd => Nat.le_trans (line_le hk ⟨by decide, by decide⟩ hd) (by decide)) w hg).mono ?_
  rintro e w' ⟨h, hB⟩
  refine ⟨?_, hB⟩
  rcases h with ⟨k, hk, hc, _, rfl⟩ | ⟨hn, _⟩
  · have h2 : (7 : Int) = k := hc
    obtain rfl : k = 7 := by omega
    rw [lineS]
  · exact absurd ⟨7, by omega, rfl, mayS⟩ hn
theorem printM (w : World) (hg : GE w) : Calls Tryd.prog 13 #[.agg #[.int .i64 0, .string ⟨#[47, 97]⟩, .string ⟨#[]⟩, .int .i64 1, .string ⟨#[]⟩]] w fun e w' => e = .returned (.tuple #[.string ⟨#[]⟩, .int .i64 130]) ∧ Below w.heap.size w w' := by
  refine (print_any fixM (cmdIn_of ⟨by decide, by decide⟩ ⟨by decide, by decide⟩ (by decide) (by decide) (by decide)) (fun k hk hd => Nat.le_trans (line_le hk ⟨by decide, by decide⟩ hd) (by decide)) w hg).mono ?_
  rintro e w' ⟨h, hB⟩
  refine ⟨?_, hB⟩
  rcases h with ⟨k, hk, hc, hm, _⟩ | ⟨_, rfl⟩
  · exact absurd ⟨k, hk, hc, hm⟩ noM
  · rfl
theorem parseW (w : World) (hg : GE w) : Calls Tryd.prog 15 #[.string ⟨#[119, 114, 105, 116, 101, 32, 47, 97, 32, 53, 32, 48, 48, 102, 102]⟩] w fun e w' => e = .returned (.tuple #[.agg #[.int .i64 2, .string ⟨#[47, 97]⟩, .string ⟨#[]⟩, .int .i64 5, .string ⟨#[0, 255]⟩], .int .i64 0]) ∧ Below w.heap.size w w' := by
  refine (parse_any _ (by decide) w hg).mono ?_
  rintro e w' ⟨h, hB⟩
  refine ⟨?_, hB⟩
  rcases h with ⟨d, hd, rfl⟩ | ⟨hn, _⟩
  · rw [hd.uniq isLineW]; rfl
  · exact absurd isLineW (hn _)
theorem parseCut (w : World) (hg : GE w) : Calls Tryd.prog 15 #[.string ⟨#[99, 117, 116, 32, 47, 97, 32, 48, 53]⟩] w fun e w' => e = .returned (.tuple #[.agg #[.int .i64 0, .string ⟨#[]⟩, .string ⟨#[]⟩, .int .i64 0, .string ⟨#[]⟩], .int .i64 130]) ∧ Below w.heap.size w w' := by
  refine (parse_any _ (by decide) w hg).mono ?_
  rintro e w' ⟨h, hB⟩
  refine ⟨?_, hB⟩
  rcases h with ⟨d, hd, _⟩ | ⟨_, rfl⟩
  · exact absurd hd (noCut d)
  · rfl
theorem pathAB (w : World) : Calls Tryd.prog 10 #[.string ⟨#[47, 97, 47, 98]⟩] w fun e w' => ∃ v, e = .returned (.tuple #[v, .int .i64 0]) ∧ TextsAt w' v [⟨#[97]⟩, ⟨#[98]⟩] ∧ Below w.heap.size w w' := by
  refine (path_any _ (by decide) w).mono ?_
  rintro e w' ⟨h, hB⟩
  rcases h with ⟨l, v, hl, rfl, hrow⟩ | ⟨hn, _⟩
  · obtain rfl := hl.uniq path_ab
    exact ⟨v, rfl, texts_of_row hrow, hB⟩
  · exact absurd path_ab (hn _)
theorem pathA (w : World) : Calls Tryd.prog 10 #[.string ⟨#[97]⟩] w fun e w' => e = .returned (.tuple #[.slice none 0 0, .int .i64 130]) ∧ Below w.heap.size w w' := by
  refine (path_any _ (by decide) w).mono ?_
  rintro e w' ⟨h, hB⟩
  rcases h with ⟨l, v, hl, _⟩ | ⟨_, rfl⟩
  · exact absurd hl (no_path_a l)
  · exact ⟨rfl, hB⟩
set_option maxRecDepth 100000 in
set_option maxHeartbeats 8000000 in
theorem fixed13_any (w : World) (hg : GE w) : Calls Tryd.prog 12 #[] w fun e w' => e = .returned (.bool true) ∧ Below w.heap.size w w' := by
  obtain ⟨w1, hw1⟩ : ∃ w1, w.alloc (CmdObj zeroC) = w1 := ⟨_, rfl⟩
  have ha1 : CmdAt zeroC w.heap.size w1 := by rw [← hw1]; exact .new _ _
  have hB1 : Below w.heap.size w w1 := by rw [← hw1]; exact (Below.refl _ w).alloc (Nat.le_refl _) _
  obtain ⟨u1, u2, u3, u4, u5, ⟨e1, e2, e3, e4, e5⟩, ⟨p1, p2, p3, p4, p5⟩, ⟨f1, f2, f3, f4, f5⟩, ha2, hs2⟩ := cmd_store fixW ha1
  have HB2 := Lib.hid (hB1.trans (hs2.below (B := w.heap.size) (fun i hi => by subst hi; exact Nat.le_refl _) hB1.size))
  have HA2 := Lib.hid ha2
  have HG := Lib.hid (fun W (h : Below w.heap.size w W) => hg.below h)
  obtain ⟨q0, q1, q2, q3, q4⟩ := ha2.cells
  have CW := printW u5 (HG.out _ HB2.out)
  unfold zeroC at p1 p2 p3 p4 p5
  unfold CmdObj zeroC at hw1
  unfold fixW at e1 e2 e3 e4 e5 q0 q1 q2 q3 q4
  simp only at p1 p2 p3 p4 p5 hw1 e1 e2 e3 e4 e5 q0 q1 q2 q3 q4
  clear ha1 hB1 ha2 hs2 hg
  go_enter Tryd.func12, Tryd.ntmps12
  go_wp2_with fail
  refine CW.mono ?_
  rintro e w3 ⟨rfl, hB3⟩
  have HB3 := Lib.hid (HB2.out.trans (hB3.mono HB2.out.size))
  have HA3 := Lib.hid (HA2.out.later hB3)
  have CP := parseW w3 (HG.out _ HB3.out)
  clear hB3 CW q0 q1 q2 q3 q4 p1 p2 p3 p4 p5 f1 f2 f3 f4 f5 e1 e2 e3 e4 e5 hw1
  go_wp2_with fail
  refine CP.mono ?_
  rintro e w4 ⟨rfl, hB4⟩
  have HB4 := Lib.hid (HB3.out.trans (hB4.mono HB3.out.size))
  have HA4 := Lib.hid (HA3.out.later hB4)
  clear hB4 CP
  obtain ⟨w5, hw5⟩ : ∃ w5, w4.alloc (CmdObj zeroC) = w5 := ⟨_, rfl⟩
  have ha5 : CmdAt zeroC w4.heap.size w5 := by rw [← hw5]; exact .new _ _
  have hB5 : Below w4.heap.size w4 w5 := by rw [← hw5]; exact (Below.refl _ w4).alloc (Nat.le_refl _) _
  obtain ⟨u1, u2, u3, u4, w6, ⟨e1, e2, e3, e4, e5⟩, ⟨p1, p2, p3, p4, p5⟩, ⟨f1, f2, f3, f4, f5⟩, ha6, hs6⟩ := cmd_store fixW ha5
  have hwl := lt_of_heap HA4.out.obj
  have HA6 := Lib.hid ((HA4.out.later hB5).stir hs6 (by omega))
  have HC6 := Lib.hid ha6
  have HB6 := Lib.hid ((HB4.out.trans (hB5.mono HB4.out.size)).trans (hs6.below (B := w.heap.size) (fun i hi => by subst hi; omega) (Nat.le_trans HB4.out.size hB5.size)))
  have CC := parseCut w6 (HG.out _ HB6.out)
  unfold zeroC at p1 p2 p3 p4 p5
  unfold CmdObj zeroC at hw5
  unfold fixW at e1 e2 e3 e4 e5
  simp only at p1 p2 p3 p4 p5 hw5 e1 e2 e3 e4 e5
  clear ha5 hB5 ha6 hs6
  go_wp2_with fail
  refine CC.mono ?_
  rintro e w7 ⟨rfl, hB7⟩
  have HB7 := Lib.hid (HB6.out.trans (hB7.mono HB6.out.size))
  have HA7 := Lib.hid (HA6.out.later hB7)
  have HC7 := Lib.hid (HC6.out.later hB7)
  clear hB7 CC p1 p2 p3 p4 p5 f1 f2 f3 f4 f5 e1 e2 e3 e4 e5 hw5
  obtain ⟨w8, hw8⟩ : ∃ w8, w7.alloc (CmdObj zeroC) = w8 := ⟨_, rfl⟩
  have ha8 : CmdAt zeroC w7.heap.size w8 := by rw [← hw8]; exact .new _ _
  have hB8 : Below w7.heap.size w7 w8 := by rw [← hw8]; exact (Below.refl _ w7).alloc (Nat.le_refl _) _
  obtain ⟨u1, u2, u3, u4, w9, ⟨e1, e2, e3, e4, e5⟩, ⟨p1, p2, p3, p4, p5⟩, ⟨f1, f2, f3, f4, f5⟩, ha9, hs9⟩ := cmd_store zeroC ha8
  have hl1 := lt_of_heap HA7.out.obj
  have hl2 := lt_of_heap HC7.out.obj
  have HA9 := Lib.hid ((HA7.out.later hB8).stir hs9 (by omega))
  have HC9 := Lib.hid ((HC7.out.later hB8).stir hs9 (by omega))
  have HB9 := Lib.hid ((HB7.out.trans (hB8.mono HB7.out.size)).trans (hs9.below (B := w.heap.size) (fun i hi => by subst hi; omega) (Nat.le_trans HB7.out.size hB8.size)))
  have CA := pathAB w9
  unfold zeroC at p1 p2 p3 p4 p5 e1 e2 e3 e4 e5
  unfold CmdObj zeroC at hw8
  simp only at p1 p2 p3 p4 p5 hw8 e1 e2 e3 e4 e5
  clear ha8 hB8 ha9 hs9
  go_wp2_with fail
  refine CA.mono ?_
  rintro e wa ⟨v, rfl, htx, hBa⟩
  have HTx := Lib.hid (fun W (h : Below wa.heap.size wa W) => htx.later h)
  have HBa := Lib.hid (HB9.out.trans (hBa.mono HB9.out.size))
  have HAa := Lib.hid (HA9.out.later hBa)
  have HCa := Lib.hid (HC9.out.later hBa)
  have CB := pathA wa
  clear hBa htx CA p1 p2 p3 p4 p5 f1 f2 f3 f4 f5 e1 e2 e3 e4 e5 hw8
  go_wp2_with fail
  refine CB.mono ?_
  rintro e wb ⟨rfl, hBb⟩
  have HBb := Lib.hid (HBa.out.trans (hBb.mono HBa.out.size))
  have HAb := Lib.hid (HAa.out.later hBb)
  have HCb := Lib.hid (HCa.out.later hBb)
  have HXb := Lib.hid hBb
  have CS := printS wb (HG.out _ HBb.out)
  clear hBb CB
  go_wp2_with fail
  refine CS.mono ?_
  rintro e wc ⟨rfl, hBc⟩
  have HBc := Lib.hid (HBb.out.trans (hBc.mono HBb.out.size))
  have HAc := Lib.hid (HAb.out.later hBc)
  have HCc := Lib.hid (HCb.out.later hBc)
  have HXc := Lib.hid (HXb.out.trans (hBc.mono HXb.out.size))
  have CM := printM wc (HG.out _ HBc.out)
  clear hBc CS
  go_wp2_with fail
  refine CM.mono ?_
  rintro e wd ⟨rfl, hBd⟩
  have HBd := Lib.hid (HBc.out.trans (hBd.mono HBc.out.size))
  have hAd := HAc.out.later hBd
  have hCd := HCc.out.later hBd
  have HXd := Lib.hid (HXc.out.trans (hBd.mono HXc.out.size))
  obtain ⟨q0, q1, q2, q3, q4⟩ := hAd.cells
  obtain ⟨r0, r1, r2, r3, r4⟩ := hCd.cells
  unfold fixW at q0 q1 q2 q3 q4 r0 r1 r2 r3 r4
  simp only at q0 q1 q2 q3 q4 r0 r1 r2 r3 r4
  obtain ⟨we, hwe⟩ : ∃ we, wd.alloc (.cells #[.string ⟨#[97]⟩, .string ⟨#[98]⟩] 9) = we := ⟨_, rfl⟩
  have hBe : Below wd.heap.size wd we := by rw [← hwe]; exact (Below.refl _ wd).alloc (Nat.le_refl _) _
  have hx : we.heap[wd.heap.size]? = some (.cells #[.string ⟨#[97]⟩, .string ⟨#[98]⟩] 9 (0, 0)) := by rw [← hwe]; exact heap_alloc_new _ _
  have ht1 := HTx.out we (HXd.out.trans (hBe.mono HXd.out.size))
  have ht2 : TextsAt we (.slice (some ⟨wd.heap.size, 0, none⟩) 2 2) [⟨#[97]⟩, ⟨#[98]⟩] := ⟨_, 2, rfl, fun _ => ⟨wd.heap.size, 0, rfl, fun j hj => by
    match j, hj with
    | 0, _ => simp [World.cell?, hx]
    | 1, _ => simp [World.cell?, hx]⟩⟩
  have CSm := rsame_any ht1 ht2 (by decide) (by decide)
  simp only [decide_true] at CSm
  have HBe := Lib.hid (HBd.out.trans (hBe.mono HBd.out.size))
  clear hBd CM hAd hCd hBe hx ht1 ht2
  go_wp2_with fail
  refine CSm.mono ?_
  rintro e wf ⟨rfl, hBf⟩
  have HBf := Lib.hid (HBe.out.trans (hBf.mono HBe.out.size))
  clear hBf CSm
  go_wp2
  go_ret
  exact ⟨rfl, HBf.out⟩
end Go.Proofs.YtmloljjllmmkoaaDoor

