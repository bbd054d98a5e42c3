/-
  A disk: Write, Sync, Bad, Arm, Crash, Revive.
-/
import Derived.Test.YtmbknpipefbelaaDskC
import Derived.Test.YtmbknpipefbelaaDskS
namespace Go.Proofs.Ytmbknpipefbelaa
open Go.RowKit Go Go.Maps SM

section
variable {b g cap m : Nat} {B : ByteArray} {a : Int} {s : DS} {cur : Array Value} {D : DataW Unit} {w w' : World}

theorem DiskAt.below (h : DiskAt b g m s w) (k : Below w.heap.size w w') : DiskAt b g m s w' := by
  obtain ⟨h1, cap, B, cur, D, h2⟩ := h
  exact ⟨h1, cap, B, cur, D, h2.below k⟩
theorem DiskAt.stay {F : Nat → Prop} (h : DiskAt b g m s w) (k : Stir F w w') (hn : ∀ i, Foot b g m i → ¬ F i) : DiskAt b g m s w' := by
  obtain ⟨h1, cap, B, cur, D, h2⟩ := h
  exact ⟨h1, cap, B, cur, D, h2.stay k hn⟩
theorem DiskAt.lt (h : DiskAt b g m s w) {k : Nat} (hk : Foot b g m k) : k < w.heap.size := by
  obtain ⟨h1, cap, B, cur, D, h2⟩ := h
  exact h2.lt hk

theorem LooseAt.put {l : List (Int × ByteArray)} (h : LooseAt m l w D) {k : Int} {x : ByteArray} {n P : Nat} (hP : P = ((seek k l 0).map (·.1)).getD l.length) (ho : w'.ownsMap Try.prog 3 wrElem m n (D.put (lit k) (wrD (P, x)))) :
    LooseAt m (putL k x l) w' (D.put (lit k) (wrD (P, x))) := by
  have hs : Maps.size (D.put (lit k) (wrD (P, x))) = (putL k x l).length := by
    rw [size_put (h.own.tidy lawM), h.reads.has, h.size, length_putL k x l 0]
  refine ⟨owns_fit ho (Nat.le_of_eq hs), hs, ?_⟩
  rw [hP]
  exact h.reads.put h.own.isMap k x

/-- a sector is laid into the map of loose ones -/
theorem DAt.put (h : DAt b g cap m B a s cur D w) (hk : s.Ok) (hm : s.made < 1099511627776) {n : Int} (hn : I64 n) {x : ByteArray} {P : Nat} (hP : P = ((seek n s.loose 0).map (·.1)).getD s.loose.length) :
    ∃ w', (Instr.mapUpdate 66 (.map (some m)) (.int .i64 n) (.agg #[.int .i64 P, .string x])).run Try.prog w = .ok () w' ∧ (∃ D', DAt b g cap m B a { s with loose := putL n x s.loose } cur D' w') ∧ Stir (· = m) w w' := by
  have hfew := hk.few
  obtain ⟨w', hrun, hown, ht⟩ := h.loose.own.store lawM Try.underlying66 (by unfold maxLen; omega) (key_of hn) (wrElem_mk (P, x))
  have S : Stir (· = m) w w' := (Stir.refl (· = m) w).turned (.inl rfl) ht
  exact ⟨w', hrun, ⟨_, S.keep h.obj h.bm, h.row.stay S h.gm, h.loose.put hP hown, h.size, h.bads⟩, S⟩

set_option maxRecDepth 100000 in
set_option maxHeartbeats 1000000 in
theorem write_any (h : DiskAt b g m s w) (hm : s.made < 1099511627776) (n : Int) (hn : I64 n) (x : ByteArray) :
    Calls Try.prog 51 #[.pointer (some ⟨b, 0, none⟩), .int .i64 n, .string x] w fun e w' => e = .returned (.int .i64 (s.writeE n x)) ∧ DiskAt b g m (s.write n x) w' ∧ Stir (Foot b g m) w w' := by
  obtain ⟨hk, cap, B, cur, D, h⟩ := h
  have C1 := find_at h hk n hn
  have C2 := isBad_at h n hn
  have hl := h.look_ok hn
  have c1 := DObj.c1 h.obj
  have hlen := fun ty => h.loose.own.len Try.underlying66 ty
  rw [h.loose.size] at hlen
  have HH := Lib.hid h
  by_cases hmay : s.may n = 0
  · rw [hmay] at C1
    by_cases h64 : x.size = 64
    · have h64b : ((x.size : Int) == 64) = true := by rw [h64]; rfl
      cases hb : s.bad n with
      | true =>
        rw [hb] at C2
        rw [show s.writeE n x = 3 by simp [DS.writeE, hmay, h64, hb], show s.write n x = s by simp [DS.write, DS.fits, hb]]
        clear h hl hmay c1 hlen h64
        go_enter Try.func51, Try.ntmps51
        go_wp2_with fail
        refine C1.mono ?_
        rintro e w' ⟨rfl, rfl⟩
        go_wp2_with fail
        refine C2.mono ?_
        rintro e w' ⟨rfl, rfl⟩
        go_wp2
        go_ret
        exact ⟨rfl, ⟨hk, _, _, _, _, HH.out⟩, Stir.refl _ _⟩
      | false =>
        rw [hb] at C2
        have hfit : s.fits n x = true := by simp [DS.fits, hmay, h64, hb]
        have hE : s.writeE n x = if s.armed = 1 then 2 else 0 := by simp [DS.writeE, hmay, h64, hb]
        have hW : s.write n x = if s.armed = 1 then (s.lays n x).goes s.keep else s.lays n x := by simp [DS.write, hfit]
        obtain ⟨P, hP⟩ : ∃ P, P = ((seek n s.loose 0).map (·.1)).getD s.loose.length := ⟨_, rfl⟩
        obtain ⟨h0, h1⟩ := (DS.may_ok hmay).2
        have hlo : (s.lays n x).Ok := hk.lays h0 h1 h64
        obtain ⟨q, y, ok, hl2, hq⟩ : ∃ (q : Int) (y : ByteArray) (ok : Bool), (Instr.lookup 66 (.map (some m)) (.int .i64 n) true).run Try.prog w = .ok (.tuple #[.agg #[.int .i64 q, .string y], .bool ok]) w ∧ (if ok then q = (P : Int) else (s.loose.length : Int) = (P : Int)) := by
          rw [hP]
          cases hs : seek n s.loose 0 with
          | none => rw [hs] at hl; exact ⟨0, none0, false, hl, rfl⟩
          | some z => rw [hs] at hl; exact ⟨z.1, z.2, true, hl, rfl⟩
        rw [hE, hW]
        obtain ⟨w1, hw1⟩ : ∃ w1, w.alloc (.cells #[.int .i64 q, .string y] 93) = w1 := ⟨_, rfl⟩
        have hB1 : Below w.heap.size w w1 := by rw [← hw1]; exact (Below.refl _ w).alloc (Nat.le_refl _) _
        have q0 : w1.heap[w.heap.size]? = some (.cells #[.int .i64 q, .string y] 93 (0, 0)) := by rw [← hw1]; exact heap_alloc_new w _
        have p0 : w1.cell? ⟨w.heap.size, 0, none⟩ = some (.int .i64 q) := by simp [World.cell?, q0]
        have c1a : w1.drew.cell? ⟨b, 1, none⟩ = some (.map (some m)) := DObj.c1 (h.below hB1).obj
        have H1 := Lib.hid (show DAt b g cap m B s.armZ s cur D w1.drew from (h.below hB1).drewN 1)
        have HB1 := Lib.hid hB1
        have HP := Lib.hid hP
        have hxs' : x.size ≤ 1048576 := by omega
        have HO := Lib.hid hlo
        have HK := Lib.hid hk
        clear h hl hmay hfit hE hW hB1 q0 h0 h1 h64 hP hlo
        by_cases ha : s.armed = 1
        · simp only [ha, if_true]
          cases ok <;> simp only [if_true, if_false, Bool.false_eq_true] at hq
          all_goals (
            first | subst hq | skip
            go_enter Try.func51, Try.ntmps51
            go_wp2_with fail
            refine C1.mono ?_
            rintro e w' ⟨rfl, rfl⟩
            go_wp2_with fail
            refine C2.mono ?_
            rintro e w' ⟨rfl, rfl⟩
            go_wp2_with fail
            go_region_held3 (fun w' => w'.cell? ⟨b, 1, none⟩ = some (.map (some m))) (first | exact c1a | exact c1b | exact c1c)
              (first | (go_at_call 71; refine (clone_any x hxs' _).mono ?_; rintro e w2 ⟨rfl, hB2⟩; have h2 := DAt.below H1.out hB2; have c1b := DObj.c1 h2.obj; obtain ⟨w3, hrun, ⟨D3, h3⟩, s3⟩ := h2.put HK.out hm hn HP.out (x := x); have c1c := DObj.c1 h3.obj; have H3 := Lib.hid h3; have S3 := Lib.hid (((Stir.of_below (F := Foot b g m) HB1.out).drew.and_below hB2).trans s3 (fun i e => .inl (.inr (.inr e)))); clear h2 h3 s3 hB2))
            all_goals (
              have L := lastStep_at H3.out (by rfl) HK.out.arm hm
              rw [show (({ s with loose := putL n x s.loose } : DS).armed == 1) = true from beq_iff_eq.2 ha] at L
              clear c1a c1b c1c hrun hl2
              go_wp2_with fail
              refine L.mono ?_
              rintro e w4 ⟨rfl, h4, s4⟩
              have c5 : w4.cell? ⟨b, 5, none⟩ = some (.string s.keep) := by have := DObj.c5 h4.obj; exact this
              have S4 := Lib.hid (S3.out.trans s4 (fun i e => .inl (.inl e)))
              have F := fall_at h4 HO.out (by have := HO.out.few; simp [DS.lays, DS.tick] at this ⊢; omega) (keep := s.keep) HK.out.keep
              clear h4 s4 L
              go_wp2_with fail
              refine F.mono ?_
              rintro e w5 ⟨rfl, ⟨cur5, D5, h5⟩, s5⟩
              have H5 := Lib.hid h5
              have S5 := Lib.hid (S4.out.trans s5 (fun i e => .inl e))
              clear h5 s5 F
              go_wp2
              go_ret
              exact ⟨rfl, ⟨HO.out.goes _, _, _, _, _, H5.out⟩, S5.out⟩))
        · simp only [ha, if_false]
          cases ok <;> simp only [if_true, if_false, Bool.false_eq_true] at hq
          all_goals (
            first | subst hq | skip
            go_enter Try.func51, Try.ntmps51
            go_wp2_with fail
            refine C1.mono ?_
            rintro e w' ⟨rfl, rfl⟩
            go_wp2_with fail
            refine C2.mono ?_
            rintro e w' ⟨rfl, rfl⟩
            go_wp2_with fail
            go_region_held3 (fun w' => w'.cell? ⟨b, 1, none⟩ = some (.map (some m))) (first | exact c1a | exact c1b | exact c1c)
              (first | (go_at_call 71; refine (clone_any x hxs' _).mono ?_; rintro e w2 ⟨rfl, hB2⟩; have h2 := DAt.below H1.out hB2; have c1b := DObj.c1 h2.obj; obtain ⟨w3, hrun, ⟨D3, h3⟩, s3⟩ := h2.put HK.out hm hn HP.out (x := x); have c1c := DObj.c1 h3.obj; have H3 := Lib.hid h3; have S3 := Lib.hid (((Stir.of_below (F := Foot b g m) HB1.out).drew.and_below hB2).trans s3 (fun i e => .inl (.inr (.inr e)))); clear h2 h3 s3 hB2))
            all_goals (
              have L := lastStep_at H3.out (by rfl) HK.out.arm hm
              rw [show (({ s with loose := putL n x s.loose } : DS).armed == 1) = false from beq_eq_false_iff_ne.2 ha] at L
              clear c1a c1b c1c hrun hl2
              go_wp2_with fail
              refine L.mono ?_
              rintro e w4 ⟨rfl, h4, s4⟩
              have H4 := Lib.hid h4
              have S4 := Lib.hid (S3.out.trans s4 (fun i e => .inl (.inl e)))
              clear h4 s4 L
              go_wp2
              go_ret
              exact ⟨rfl, ⟨HO.out, _, _, _, _, (by rw [show (s.lays n x).armZ = s.armZ from DS.armZ_tick (by omega)]; exact H4.out)⟩, S4.out⟩))
    · have h64b : ((x.size : Int) == 64) = false := beq_eq_false_iff_ne.2 (by omega)
      rw [show s.writeE n x = 1 by simp [DS.writeE, hmay, h64], show s.write n x = s by simp [DS.write, DS.fits, h64]]
      clear h hl hmay c1 hlen h64 C2
      go_enter Try.func51, Try.ntmps51
      go_wp2_with fail
      refine C1.mono ?_
      rintro e w' ⟨rfl, rfl⟩
      go_wp2
      go_ret
      exact ⟨rfl, ⟨hk, _, _, _, _, HH.out⟩, Stir.refl _ _⟩
  · have hne : (s.may n == 0) = false := beq_eq_false_iff_ne.2 hmay
    rw [show s.writeE n x = s.may n by simp [DS.writeE, hmay], show s.write n x = s by simp [DS.write, DS.fits, hne]]
    generalize s.may n = E at C1 hmay hne ⊢
    clear h hl hmay c1 hlen C2
    go_enter Try.func51, Try.ntmps51
    go_wp2_with fail
    refine C1.mono ?_
    rintro e w' ⟨rfl, rfl⟩
    go_wp2
    go_ret
    exact ⟨rfl, ⟨hk, _, _, _, _, HH.out⟩, Stir.refl _ _⟩

set_option maxRecDepth 100000 in
theorem sync_any (h : DiskAt b g m s w) (hm : s.made < 1099511627776) :
    Calls Try.prog 54 #[.pointer (some ⟨b, 0, none⟩)] w fun e w' => e = .returned (.int .i64 s.syncE) ∧ DiskAt b g m s.sync w' ∧ Stir (Foot b g m) w w' := by
  obtain ⟨hk, cap, B, cur, D, h⟩ := h
  have c6 := DObj.c6 h.obj
  have HH := Lib.hid h
  have hfew := hk.few
  unfold DS.syncE DS.sync
  cases hd : s.dead with
  | true =>
    rw [hd] at c6
    simp only [if_true]
    clear h hd
    go_enter Try.func54, Try.ntmps54
    go_wp2
    go_ret
    exact ⟨rfl, ⟨hk, _, _, _, _, HH.out⟩, Stir.refl _ _⟩
  | false =>
    rw [hd] at c6
    have C1 := lastStep_at h rfl hk.arm hm
    simp only [Bool.false_eq_true, if_false]
    by_cases ha : s.armed = 1
    · rw [show (s.armed == 1) = true from beq_iff_eq.2 ha] at C1
      simp only [ha, if_true]
      clear h hd ha
      go_enter Try.func54, Try.ntmps54
      go_wp2_with fail
      refine C1.mono ?_
      rintro e w1 ⟨rfl, h1, s1⟩
      have c5 := DObj.c5 h1.obj
      have C2 := fun w (h : DAt b g cap m B s.armZ s.tick cur D w) => fall_at h hk.tick (by show s.loose.length ≤ _; omega) (keep := s.keep) hk.keep
      have S1 := Lib.hid (s1.weaken (G := Foot b g m) (fun k e => .inl e))
      have H1 := Lib.hid h1
      have c5' : w1.cell? ⟨b, 5, none⟩ = some (.string s.keep) := c5
      clear h1 s1 c5 C1
      go_wp2_with fail
      refine (C2 _ H1.out).mono ?_
      rintro e w2 ⟨rfl, ⟨cur2, D2, h2⟩, s2⟩
      have S2 := Lib.hid (S1.out.trans s2 (fun i hi => .inl hi))
      have H2 := Lib.hid h2
      clear h2 s2
      go_wp2
      go_ret
      exact ⟨rfl, ⟨hk.tick.goes _, _, _, _, _, H2.out⟩, S2.out⟩
    · rw [show (s.armed == 1) = false from beq_eq_false_iff_ne.2 ha] at C1
      simp only [ha, if_false]
      have hat : s.tick.armZ = s.armZ := DS.armZ_tick (by omega)
      clear h hd
      go_enter Try.func54, Try.ntmps54
      go_wp2_with fail
      refine C1.mono ?_
      rintro e w1 ⟨rfl, h1, s1⟩
      have C2 := fun w (h : DAt b g cap m B s.armZ s.tick cur D w) => settle_all h hk.tick (by show s.loose.length ≤ _; omega)
      have S1 := Lib.hid (s1.weaken (G := Foot b g m) (fun k e => .inl e))
      have H1 := Lib.hid h1
      clear h1 s1 C1
      go_wp2_with fail
      refine (C2 _ H1.out).mono ?_
      rintro e w2 ⟨rfl, ⟨cur2, D2, h2⟩, s2⟩
      have S2 := Lib.hid (S1.out.trans s2 (fun i hi => .inl (.inr hi)))
      rw [← hat] at h2
      have H2 := Lib.hid h2
      clear h2 s2 hat
      go_wp2
      go_ret
      exact ⟨rfl, ⟨hk.tick.settled, _, _, _, _, H2.out⟩, S2.out⟩

theorem crash_any (h : DiskAt b g m s w) (hm : s.made < 1099511627776) {keep : ByteArray} (hkp : keep.size ≤ 140737488355328) :
    Calls Try.prog 12 #[.pointer (some ⟨b, 0, none⟩), .string keep] w fun e w' => e = .returned (.int .i64 s.crashE) ∧ DiskAt b g m (s.crash keep) w' ∧ Stir (Foot b g m) w w' := by
  obtain ⟨hk, cap, B, cur, D, h⟩ := h
  have c6 := DObj.c6 h.obj
  have HH := Lib.hid h
  have hfew := hk.few
  have C2 := fun w (h : DAt b g cap m B s.armZ s cur D w) => fall_at h hk (by omega) hkp
  unfold DS.crashE DS.crash
  cases hd : s.dead with
  | true =>
    rw [hd] at c6
    simp only [if_true]
    clear h hd
    go_enter Try.func12, Try.ntmps12
    go_wp2
    go_ret
    exact ⟨rfl, ⟨hk, _, _, _, _, HH.out⟩, Stir.refl _ _⟩
  | false =>
    rw [hd] at c6
    simp only [Bool.false_eq_true, if_false]
    clear h hd
    go_enter Try.func12, Try.ntmps12
    go_wp2_with fail
    refine (C2 _ HH.out).mono ?_
    rintro e w2 ⟨rfl, ⟨cur2, D2, h2⟩, s2⟩
    have S2 := Lib.hid s2
    have H2 := Lib.hid h2
    clear h2 s2
    go_wp2
    go_ret
    exact ⟨rfl, ⟨hk.goes _, _, _, _, _, H2.out⟩, S2.out⟩

theorem revive_any (h : DiskAt b g m s w) :
    Calls Try.prog 14 #[.pointer (some ⟨b, 0, none⟩)] w fun e w' => e = .returned (.tuple #[]) ∧ DiskAt b g m s.revive w' ∧ Stir (Foot b g m) w w' := by
  obtain ⟨hk, cap, B, cur, D, h⟩ := h
  have f6 := DObj.fr h.obj 6
  have c6 := DObj.c6 h.obj
  have h2 : DAt b g cap m B s.armZ { s with dead := false } cur D (w.setCell ⟨b, 6, none⟩ (.bool false)) :=
    DAt.cell (s' := { s with dead := false }) (a' := s.armZ) (B' := B) h 6 _ rfl rfl h.size h.bads (by rw [heap_set h.obj]; simp [DObj])
  have C2 := disarm_at h2
  have S1 := Lib.hid ((Stir.refl (Foot b g m) w).set (b := b) (i := 6) (.inl (.inl rfl)) (.bool false))
  clear h2 h
  go_enter Try.func14, Try.ntmps14
  go_wp2_with fail
  refine C2.mono ?_
  rintro e w3 ⟨rfl, h3, s3⟩
  have S3 := Lib.hid (S1.out.trans s3 (fun i hi => .inl (.inl hi)))
  have H3 := Lib.hid h3
  clear h3 s3
  go_wp2
  go_end0
  exact ⟨rfl, ⟨hk.revive, _, _, _, _, H3.out⟩, S3.out⟩
end
end Go.Proofs.Ytmbknpipefbelaa
