/-
  For every two commands and every text of bounded size: what is printed is parsed as it was; what is parsed is printed as it was; two commands have one line just if they are one.
  Conditions: what is handed in holds at most 1048576 values and letters.
-/
import Derived.Test.YtmloljjllmmkoaaDoorCmdO
namespace Go.Proofs.YtmloljjllmmkoaaDoor.cback
open Go.Proofs.YtmloljjllmmkoaaDoor
open Go.ChangeShapes Go.WideShapes Go.ChangeAt Go.RowKit Go

theorem print_tuple {c : Cmd} {e : Ending} (h : PrintE c e) : ∃ x n, e = .returned (.tuple #[.string x, .int .i64 n]) ∧ ((∃ k : Nat, k < 9 ∧ c.kind = k ∧ MayK c k ∧ x = bs (lineK k c) ∧ n = 0) ∨ (¬ MayC c ∧ n = 130)) := by
  rcases h with ⟨k, h1, h2, h3, rfl⟩ | ⟨h, rfl⟩
  · exact ⟨_, _, rfl, .inl ⟨k, h1, h2, h3, rfl, rfl⟩⟩
  · exact ⟨_, _, rfl, .inr ⟨h, rfl⟩⟩
theorem parse_self {c : Cmd} {k : Nat} (hk : k < 9) (hc : c.kind = k) (hm : MayK c k) {e : Ending} (h : ParseE (bs (lineK k c)) e) : e = .returned (.tuple #[.agg #[.int .i64 c.kind, .string c.path, .string c.dest, .int .i64 c.place, .string c.data], .int .i64 0]) := by
  rcases h with ⟨d, hd, rfl⟩ | ⟨hn, _⟩
  · rw [hd.uniq (line_self hk hc hm)]; rfl
  · exact absurd (line_self hk hc hm) (hn _)
theorem print_self {d : Cmd} {s : ByteArray} (h : IsLine d s) {e : Ending} (hp : PrintE d e) : e = .returned (.tuple #[.string s, .int .i64 0]) := by
  obtain ⟨k, hk, hc, hm, hl⟩ := h
  rcases hp with ⟨j, hj, hcj, _, rfl⟩ | ⟨hn, _⟩
  · have : (j : Int) = k := by rw [← hcj, hc]
    obtain rfl : j = k := by omega
    rw [hl, bs_self]
  · exact absurd ⟨k, hk, hc, hm⟩ hn
theorem line_ge {c : Cmd} {k : Nat} (hk : k < 9) (hm : MayK c k) : c.path.size + c.dest.size ≤ (lineK k c).length := by
  have h1 : c.path.data.toList.length = c.path.size := Array.length_toList (xs := c.path.data)
  have h2 : c.dest.data.toList.length = c.dest.size := Array.length_toList (xs := c.dest.data)
  have e0 : ∀ {x : ByteArray}, x = ⟨#[]⟩ → x.size = 0 := fun h => by subst h; rfl
  rcases below9 hk with rfl | rfl | rfl | rfl | rfl | rfl | rfl | rfl | rfl <;> simp only [MayK] at hm <;>
    simp only [lineK, wordsC, fldK, List.map_cons, List.map_nil, fldLay, joinB, wordK, List.length_append, List.length_cons, List.length_nil]
  · have := e0 hm.2.1; omega
  · have := e0 hm.2.1; omega
  · have := e0 hm.2.1; omega
  · have := e0 hm.2.1; omega
  · omega
  · omega
  · have := e0 hm.2.1; omega
  · have := e0 hm.2.1; omega
  · have := e0 hm.2.1; omega
theorem MayK.place {c : Cmd} {k : Nat} (hk : k < 9) (h : MayK c k) : IntOk c.place := by
  have e0 : ∀ {x : Int}, x = 0 → IntOk x := fun h => by subst h; exact ⟨by omega, by omega⟩
  have e1 : ∀ {x : Int}, 0 ≤ x ∧ x ≤ 16384 → IntOk x := fun h => ⟨by omega, by omega⟩
  rcases below9 hk with rfl | rfl | rfl | rfl | rfl | rfl | rfl | rfl | rfl
  · exact e0 h.2.2.1
  · exact e0 h.2.2.1
  · exact e1 h.2.2.1
  · exact e1 h.2.2.1
  · exact e0 h.2.2.1
  · exact e0 h.2.2.1
  · exact e0 h.2.2.1
  · exact e0 h.2.2.1
  · exact e0 h.2.2.1
/-- the command of a line is within bounds -/
theorem line_in {d : Cmd} {s : ByteArray} (h : IsLine d s) (hs : s.size ≤ 140737488351232) : CmdIn d ∧ ∀ k < 9, d.data.size ≤ 512 → (lineK k d).length ≤ 140737488355328 := by
  obtain ⟨k, hk, hc, hm, hl⟩ := h
  have h1 := line_ge hk hm
  have hss : s.data.toList.length = s.size := Array.length_toList (xs := s.data)
  rw [hl] at h1
  have hd := hm.data hk
  have hp := MayK.place hk hm
  refine ⟨⟨⟨by omega, by omega⟩, hp, by omega, by omega, by omega⟩, fun j hj hd => Nat.le_trans (line_le hj hp hd) (by omega)⟩
theorem line_apart {a b : Cmd} {j k : Nat} (hj : j < 9) (hk : k < 9) (ha : a.kind = j) (hb : b.kind = k) (ma : MayK a j) (mb : MayK b k) (h : a ≠ b) : bs (lineK j a) ≠ bs (lineK k b) := fun e =>
  h ((line_self hj ha ma).uniq (by rw [e]; exact line_self hk hb mb))
set_option maxRecDepth 100000 in
set_option maxHeartbeats 8000000 in
theorem walk (a b : Cmd) (s : ByteArray) (W : World) (ha : CmdOk a) (hsa : a.path.size + a.dest.size + a.data.size ≤ 1048576) (hb : CmdOk b) (hsb : b.path.size + b.dest.size + b.data.size ≤ 1048576) (hs : s.size ≤ 140737488351232) (hg : GE W) :
    Calls Tryd.prog 6 #[cmdV a, cmdV b, .string s] W fun e W' => e = .returned (.bool true) ∧ Below W.heap.size W W' := by
  obtain ⟨w1, hw1⟩ : ∃ w1, W.alloc (CmdObj a) = w1 := ⟨_, rfl⟩
  have ha1 : CmdAt a W.heap.size w1 := by rw [← hw1]; exact .new _ _
  have hB1 : Below W.heap.size W w1 := by rw [← hw1]; exact (Below.refl _ W).alloc (Nat.le_refl _) _
  obtain ⟨w2, hw2⟩ : ∃ w2, w1.alloc (CmdObj b) = w2 := ⟨_, rfl⟩
  have hb2 : CmdAt b w1.heap.size w2 := by rw [← hw2]; exact .new _ _
  have hB2 : Below w1.heap.size w1 w2 := by rw [← hw2]; exact (Below.refl _ w1).alloc (Nat.le_refl _) _
  have ha2 := ha1.later hB2
  obtain ⟨q0, q1, q2, q3, q4⟩ := ha2.cells
  have HA2 := Lib.hid ha2
  have HBb2 := Lib.hid hb2
  have HB2 := Lib.hid (hB1.trans (hB2.mono hB1.size))
  have HG := Lib.hid (fun w (h : Below W.heap.size W w) => hg.below h)
  have HLa := Lib.hid (show ∀ k < 9, a.data.size ≤ 512 → (lineK k a).length ≤ 2000000 from fun k hk hd => Nat.le_trans (line_le hk ha.place hd) (by omega))
  have HLb := Lib.hid (show ∀ k < 9, b.data.size ≤ 512 → (lineK k b).length ≤ 2000000 from fun k hk hd => Nat.le_trans (line_le hk hb.place hd) (by omega))
  have CPa := print_any a ha.in_ (fun k hk hd => Nat.le_trans (HLa.out k hk hd) (by decide)) w2 (HG.out _ HB2.out)
  have HCb := Lib.hid (fun w h => print_any b hb.in_ (fun k hk hd => Nat.le_trans (HLb.out k hk hd) (by decide)) w h)
  unfold cmdV at CPa ⊢
  unfold CmdObj at hw1 hw2
  clear ha1 hB1 hb2 hB2 ha2 hg ha hsa hb hsb
  go_enter Tryd.func6, Tryd.ntmps6
  go_wp2_with fail
  refine CPa.mono ?_
  rintro e w3 ⟨hpa, hB3⟩
  obtain ⟨x, n, rfl, hqa⟩ := print_tuple hpa
  have HPa := Lib.hid hqa
  have HB3 := Lib.hid (HB2.out.trans (hB3.mono HB2.out.size))
  have HA3 := Lib.hid (HA2.out.later hB3)
  have hb3 := HBb2.out.later hB3
  have HBb3 := Lib.hid hb3
  have CPb := HCb.out w3 (HG.out _ HB3.out)
  clear q0 q1 q2 q3 q4 hpa hqa hB3 CPa hw1 hw2
  obtain ⟨q0, q1, q2, q3, q4⟩ := hb3.cells
  unfold cmdV at CPb
  clear hb3
  go_wp2_with fail
  refine CPb.mono ?_
  rintro e w4 ⟨hpb, hB4⟩
  obtain ⟨y, m, rfl, hqb⟩ := print_tuple hpb
  have HPb := Lib.hid hqb
  have HB4 := Lib.hid (HB3.out.trans (hB4.mono HB3.out.size))
  have HA4 := Lib.hid (HA3.out.later hB4)
  have HBb4 := Lib.hid (HBb3.out.later hB4)
  clear q0 q1 q2 q3 q4 hpb hqb hB4 CPb
  go_upto_if 28 with fail
  go_cut [2] from 0 to 53 (fun sv wx => sv = .string s ∧ Hid (Below W.heap.size W wx))
  case first =>
    rcases HPa.out with ⟨k, hk, hck, hm, rfl, rfl⟩ | ⟨_, rfl⟩
    · have HX := Lib.hid (fun e h => parse_self hk hck hm (e := e) h)
      have hxs : (bs (lineK k a)).size ≤ 281474976710656 := by rw [bs_size]; have := HLa.out k hk (hm.data hk); omega
      have CP := parse_any (bs (lineK k a)) hxs w4 (HG.out _ HB4.out)
      obtain ⟨X, hX⟩ : ∃ X, bs (lineK k a) = X := ⟨_, rfl⟩
      have HXl := Lib.hid hX
      rw [hX] at CP HX ⊢
      have HK := Lib.hid hk
      have HCk := Lib.hid hck
      have HM := Lib.hid hm
      clear hxs hX hk hck hm
      go_wp2_with fail
      refine CP.mono ?_
      rintro e w5 ⟨hpe, hB5⟩
      obtain rfl := HX.out e hpe
      have HB5 := Lib.hid (HB4.out.trans (hB5.mono HB4.out.size))
      have HA5 := Lib.hid (HA4.out.later hB5)
      have HBb5 := Lib.hid (HBb4.out.later hB5)
      clear hpe hB5 CP
      obtain ⟨w6, hw6⟩ : ∃ w6, w5.alloc (CmdObj zeroC) = w6 := ⟨_, rfl⟩
      have ha6 : CmdAt zeroC w5.heap.size w6 := by rw [← hw6]; exact .new _ _
      have hB6 : Below w5.heap.size w5 w6 := by rw [← hw6]; exact (Below.refl _ w5).alloc (Nat.le_refl _) _
      obtain ⟨u1, u2, u3, u4, w7, ⟨e1, e2, e3, e4, e5⟩, ⟨p1, p2, p3, p4, p5⟩, ⟨f1, f2, f3, f4, f5⟩, ha7, hs7⟩ := cmd_store a ha6
      have hl1 := lt_of_heap HA5.out.obj
      have hl2 := lt_of_heap HBb5.out.obj
      have hA7 := (HA5.out.later hB6).stir hs7 (by omega)
      have hb7 := (HBb5.out.later hB6).stir hs7 (by omega)
      have HB7 := Lib.hid ((HB5.out.trans (hB6.mono HB5.out.size)).trans (hs7.below (B := W.heap.size) (fun i hi => by subst hi; exact HB5.out.size) (Nat.le_trans HB5.out.size hB6.size)))
      obtain ⟨q0, q1, q2, q3, q4⟩ := ha7.cells
      obtain ⟨r0, r1, r2, r3, r4⟩ := hA7.cells
      obtain ⟨t0, t1, t2, t3, t4⟩ := hb7.cells
      unfold zeroC at p1 p2 p3 p4 p5
      unfold CmdObj zeroC at hw6
      simp only at p1 p2 p3 p4 p5 hw6
      clear ha6 hB6 ha7 hs7 hA7 hb7
      go_upto_region 5 with fail
      clear e1 e2 e3 e4 e5 p1 p2 p3 p4 p5 f1 f2 f3 f4 f5 hw6
      rcases HPb.out with ⟨j, hj, hcj, hmj, hy, rfl⟩ | ⟨_, rfl⟩
      · by_cases hab : a = b
        · subst hab
          have hjk : (j : Int) = k := by rw [← hcj, HCk.out]
          obtain rfl : j = k := by omega
          obtain rfl : y = X := by rw [hy, HXl.out]
          clear hjk hcj hmj hy hj
          go_wp2
          go_meet
          exact ⟨rfl, HB7⟩
        · obtain ⟨n1, n2⟩ := texts_ne2 (a := X) (b := y) (by rw [← HXl.out, hy]; exact line_apart HK.out hj HCk.out hcj HM.out hmj hab)
          have hne := cmd_ne hab
          clear hab hy hj hcj hmj n2
          rcases hne with h1 | ⟨h1, h2⟩ | ⟨h1, h2, h3⟩ | ⟨h1, h2, h3, h4⟩ | ⟨h1, h2, h3, h4, h5⟩
          · go_wp2
            go_meet
            exact ⟨rfl, HB7⟩
          · obtain ⟨m1, m2⟩ := texts_ne2 h2
            go_wp2
            go_meet
            exact ⟨rfl, HB7⟩
          · obtain ⟨m1, m2⟩ := texts_ne2 h3
            go_wp2
            go_meet
            exact ⟨rfl, HB7⟩
          · go_wp2
            go_meet
            exact ⟨rfl, HB7⟩
          · obtain ⟨m1, m2⟩ := texts_ne2 h5
            go_wp2
            go_meet
            exact ⟨rfl, HB7⟩
      · go_wp2
        go_meet
        exact ⟨rfl, HB7⟩
    · go_wp2
      go_meet
      exact ⟨rfl, HB4⟩
  case rest =>
    obtain ⟨rfl, HB⟩ := hcut
    clear HPa HPb HA4 HBb4 HB4 HA3 HBb3 HB3 HA2 HBb2 HB2
    have CP := parse_any s (by omega) _ (HG.out _ HB.out)
    go_wp2_with fail
    refine CP.mono ?_
    rintro e w7 ⟨hpe, hB7⟩
    have HB7 := Lib.hid (HB.out.trans (hB7.mono HB.out.size))
    clear hB7 CP
    obtain ⟨w8, hw8⟩ : ∃ w8, w7.alloc (CmdObj zeroC) = w8 := ⟨_, rfl⟩
    have ha8 : CmdAt zeroC w7.heap.size w8 := by rw [← hw8]; exact .new _ _
    have hB8 : Below w7.heap.size w7 w8 := by rw [← hw8]; exact (Below.refl _ w7).alloc (Nat.le_refl _) _
    rcases hpe with ⟨d, hd, rfl⟩ | ⟨_, rfl⟩
    · obtain ⟨u1, u2, u3, u4, w9, ⟨e1, e2, e3, e4, e5⟩, ⟨p1, p2, p3, p4, p5⟩, ⟨f1, f2, f3, f4, f5⟩, ha9, hs9⟩ := cmd_store d ha8
      have HB9 := Lib.hid ((HB7.out.trans (hB8.mono HB7.out.size)).trans (hs9.below (B := W.heap.size) (fun i hi => by subst hi; exact HB7.out.size) (Nat.le_trans HB7.out.size hB8.size)))
      obtain ⟨q0, q1, q2, q3, q4⟩ := ha9.cells
      obtain ⟨hdi, hdl⟩ := line_in hd hs
      have CPd := print_any d hdi hdl w9 (HG.out _ HB9.out)
      have HPd := Lib.hid (fun e h => print_self hd (e := e) h)
      unfold zeroC at p1 p2 p3 p4 p5
      unfold CmdObj zeroC at hw8
      unfold cmdV at CPd ⊢
      simp only at p1 p2 p3 p4 p5 hw8
      clear ha8 hB8 ha9 hs9 hd hdi hdl
      go_wp2_with fail
      refine CPd.mono ?_
      rintro e wa ⟨hpd, hBa⟩
      obtain rfl := HPd.out e hpd
      have HBa := Lib.hid (HB9.out.trans (hBa.mono HB9.out.size))
      have CF := fixed13_any wa (HG.out _ HBa.out)
      have b1 : (s.toList == s.toList) = true := beq_iff_eq.2 rfl
      clear hpd hBa CPd e1 e2 e3 e4 e5 p1 p2 p3 p4 p5 f1 f2 f3 f4 f5 hw8 q0 q1 q2 q3 q4
      go_wp2_with fail
      refine CF.mono ?_
      rintro e wb ⟨rfl, hBb⟩
      have HBb := Lib.hid (HBa.out.trans (hBb.mono HBa.out.size))
      clear hBb CF
      go_wp2
      go_ret
      exact ⟨rfl, HBb.out⟩
    · obtain ⟨u1, u2, u3, u4, w9, ⟨e1, e2, e3, e4, e5⟩, ⟨p1, p2, p3, p4, p5⟩, ⟨f1, f2, f3, f4, f5⟩, ha9, hs9⟩ := cmd_store zeroC ha8
      have HB9 := Lib.hid ((HB7.out.trans (hB8.mono HB7.out.size)).trans (hs9.below (B := W.heap.size) (fun i hi => by subst hi; exact HB7.out.size) (Nat.le_trans HB7.out.size hB8.size)))
      obtain ⟨q0, q1, q2, q3, q4⟩ := ha9.cells
      have CF := fixed13_any w9 (HG.out _ HB9.out)
      unfold zeroC at p1 p2 p3 p4 p5 e1 e2 e3 e4 e5 q0 q1 q2 q3 q4
      unfold CmdObj zeroC at hw8
      unfold cmdV zeroC
      simp only at p1 p2 p3 p4 p5 hw8 e1 e2 e3 e4 e5 q0 q1 q2 q3 q4
      clear ha8 hB8 ha9 hs9
      go_wp2_with fail
      refine CF.mono ?_
      rintro e wb ⟨rfl, hBb⟩
      have HBb := Lib.hid (HB9.out.trans (hBb.mono HB9.out.size))
      clear hBb CF
      go_wp2
      go_ret
      exact ⟨rfl, HBb.out⟩
set_option maxRecDepth 100000 in
/-- WHAT THE WALK GIVES, for every argument that can be read. -/
theorem contract (H : Type) (enc : TypeId × Value → H) (W : World) (base : Nat) (args : Array Value) (ds gs : List (DataW H)) (before : List MemPlace)
    (hval : ∀ (j : Nat) t v, Tryd.f6.params[j]? = some t → args[j]? = some v → Value.okWide Tryd.prog W .any base t v)
    (hW : DataW.Whole enc Tryd.prog Tryd.f6.params.toList Rows.commandBackSpec.vars false W args.toList ds gs before)
    (hreach : (DataW.weightsEach Tryd.prog (Tryd.f6.params.toList) ds).all (· ≤ reachBytes) = true) (hcond : Rows.uptoBulkAll ds ≤ 1048576) (hg : GE W) :
    Calls Tryd.prog 6 args W fun e W' => ∃ v, e = .returned v ∧ Rows.commandBackSpec.post enc Tryd.prog Tryd.f6 false true false false W args v W' := by
  have hW' := hW
  obtain ⟨p, q, hA0, hV, rfl, hfz, hnd⟩ := hW
  have hA : DataW.TrodAll enc Tryd.prog W 0 (fun _ => true) true Tryd.f6.params.toList args.toList ds p := hA0
  rw [Tryd.params6] at hA hval hreach
  obtain ⟨v0, v1, v2, d0, d1, d2, p0, p1, p2, rfl, rfl, rfl, h0, h1, h2⟩ := trodAll_three hA
  obtain ⟨rfl, rfl⟩ := trodVars_none hV
  obtain ⟨s2, rfl, rfl, rfl, ws2⟩ := Go.ChangeMaps.open_string Tryd.underlying9 (hval 2 9 v2 rfl rfl) h2
  have r2 := reach_size (sized_string hreach (j := 2) rfl rfl)
  obtain ⟨c0, rfl, r0, rfl, sh0, rfl⟩ := cmd_open (hval 0 30 v0 rfl rfl) h0 hreach (j := 0) rfl rfl
  obtain ⟨c1, rfl, r1, rfl, sh1, rfl⟩ := cmd_open (hval 1 30 v1 rfl rfl) h1 hreach (j := 1) rfl rfl
  clear hA0 hval
  simp only [List.append_nil] at hW'
  simp only [Rows.uptoBulkAll, Rows.uptoBulk] at hcond
  refine (walk c0 c1 s2 W r0 (small_cmd (n := 1048576) (by omega)) r1 (small_cmd (n := 1048576) (by omega)) r2 hg).mono fun e W' ⟨he, hB⟩ => ?_
  subst he
  exact ⟨_, rfl, post_of_below (pa := [] ++ ([] ++ ([]))) (pv := []) hW' (fun _ _ _ => trodAll_mk1 (shut_bool Tryd.underlying4 _)) (fun sp hsp => trodAll_mk3 (sh0 _ _) (sh1 _ _) (Go.ChangeMaps.shut_string Tryd.underlying9 ws2)) (fun _ _ => rfl) (by simp) hB (ok_one (by kernel_rfl) rfl (okWide_bool_mk Tryd.underlying4 _))⟩

theorem reads (os : Os) {H : Type} (enc : TypeId × Value → H) : ∃ places, DataW.whole enc Tryd.prog ((laidWorld os).forCall (fun _ _ => 0) ⟨#[], #[.agg #[.int .i64 0, .string ⟨#[]⟩, .string ⟨#[]⟩, .int .i64 0, .string ⟨#[]⟩], .agg #[.int .i64 0, .string ⟨#[]⟩, .string ⟨#[]⟩, .int .i64 0, .string ⟨#[]⟩], .string ⟨#[]⟩], []⟩).memory Tryd.f6.params.toList Rows.commandBackSpec.vars false (#[.agg #[.int .i64 0, .string ⟨#[]⟩, .string ⟨#[]⟩, .int .i64 0, .string ⟨#[]⟩], .agg #[.int .i64 0, .string ⟨#[]⟩, .string ⟨#[]⟩, .int .i64 0, .string ⟨#[]⟩], .string ⟨#[]⟩] : Array Value).toList 8 = some ([.agg [.lit (.int .i64 0), .lit (.string []), .lit (.string []), .lit (.int .i64 0), .lit (.string [])], .agg [.lit (.int .i64 0), .lit (.string []), .lit (.string []), .lit (.int .i64 0), .lit (.string [])], .lit (.string [])], [], places) :=
  ⟨[], by kernel_rfl⟩

set_option maxRecDepth 100000 in
theorem lifted (os : Os) (started : os.Started) (H : Type) (enc : TypeId × Value → H) (F : Stop.Interp) :
    ReturnsInHanded {} Tryd.checked os 6 .any ((Rows.OpenSpec.upto Rows.commandBackSpec).preRow enc Tryd.prog Tryd.f6 Rows.commandBackUptoRow.domain false Rows.commandBackUptoRow.laid) (((Rows.OpenSpec.upto Rows.commandBackSpec).at F).post enc Tryd.prog Tryd.f6 false true false false) := by
  obtain ⟨places, hx⟩ := reads os enc
  refine returnsInHanded_of_row (C := Tryd.checked) (s := Rows.OpenSpec.upto Rows.commandBackSpec) own started (by kernel_rfl) Tryd.func6
    (witness_row_at (enc := enc) (C := Tryd.checked) false (laidWorld os) #[.agg #[.int .i64 0, .string ⟨#[]⟩, .string ⟨#[]⟩, .int .i64 0, .string ⟨#[]⟩], .agg #[.int .i64 0, .string ⟨#[]⟩, .string ⟨#[]⟩, .int .i64 0, .string ⟨#[]⟩], .string ⟨#[]⟩] rfl (by kernel_rfl) (by kernel_rfl) (by kernel_rfl)
      (OpenSpec.preRow_of_cond 8 hx (by kernel_rfl) (fun k hk => by cases hk; kernel_rfl) (by kernel_rfl) (laid_met os _))) ?_
  intro W base args ds gs before hval hW _ hcond hreach hL _ _
  obtain ⟨p, q, hA0, hV, hpq, hfz, hnd⟩ := id hW
  obtain ⟨rfl, _⟩ := trodVars_none hV
  rw [List.append_nil] at hreach
  exact contract H enc W base args ds [] before hval hW hreach (by have h := of_decide_eq_true (hcond _ rfl); simpa using h) (handle_of_laid hL)

theorem said : Rows.CommandBackUptoSaid :=
  OpenClaim.holds_of_cond 6 Tryd.f6 rfl rfl rfl rfl rfl rfl rfl ⟨rfl, rfl, rfl, rfl, rfl⟩ rfl rfl rfl rfl rfl (by kernel_rfl) Tryd.func6 (by kernel_rfl)
    (of_decide_eq_true (by kernel_rfl)) (by unfold Func.isWrapper; first | (rw [if_pos (by decide +kernel)]; kernel_rfl) | (rw [if_neg (by decide +kernel)]; exact ⟨rfl, rfl⟩))
    (fun os started H enc _ F => by rw [OpenClaim.pre_eq_preRow]; exact lifted os started H enc F)

theorem plain (f : FuncId) (fn : Func) (hf : Tryd.pinned.checked.prog.funcNamed "stillage/stillagelaw13.CommandBack" = some f) (hfn : Tryd.pinned.checked.prog.funcs[f]? = some fn) :
    true = Tryd.pinned.checked.prog.looks [] ∧ ∀ (j : Nat) t, fn.params[j]? = some t → Tryd.pinned.checked.prog.wantsStandIn t = false := by
  obtain rfl : f = 6 := Option.some.inj ((show Tryd.prog.funcNamed "stillage/stillagelaw13.CommandBack" = some 6 by kernel_rfl).symm.trans hf) |>.symm
  obtain rfl : fn = Tryd.f6 := (Option.some.inj (Tryd.func6.symm.trans hfn)).symm
  refine ⟨by kernel_rfl, fun j t ht => ?_⟩
  rw [Tryd.params6] at ht
  have hm : t ∈ [30, 30, 9] := by simpa using Array.mem_of_getElem? ht
  have hall : ([30, 30, 9].all fun u => !Tryd.prog.wantsStandIn u) = true := by kernel_rfl
  exact (show Tryd.prog.wantsStandIn t = false by simpa using List.all_eq_true.1 hall t hm)

/-- THE CARD -/
theorem card : Rows.CommandBackUptoCardSaid :=
  Claim7.holds_tied_plain_at .later [] _ _ _ _ said (fun _ h => by cases h) (by kernel_rfl) (fun _ h => by cases h) commandBackUpto_row_tie rfl ⟨rfl, rfl⟩ (by kernel_rfl) rfl plain (by kernel_rfl)


end Go.Proofs.YtmloljjllmmkoaaDoor.cback

