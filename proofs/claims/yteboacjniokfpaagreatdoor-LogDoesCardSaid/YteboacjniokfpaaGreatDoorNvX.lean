/-
  The reference's log as plain data: Append, Start.
-/
import Derived.Test.YteboacjniokfpaaGreatDoorNvS
import Derived.Test.YteboacjniokfpaaGreatDoorNC
import Derived.Test.YteboacjniokfpaaGreatDoorNvT
import Derived.Deep.RegionHeld3
namespace Go.Proofs.YteboacjniokfpaaGreatDoor
open Go.RowKit Go Go.Maps SM

theorem infoX : (Tryz.prog.info? 9).map (fun i => (i.zero, i.size, i.bytes)) = some (some (.string ⟨#[]⟩), 1, 16) := by kernel_rfl
/-- the reference's log in memory is this plain data -/
structure RL (q r base ub : Nat) (u v0 v2 : Value) (zs : List Int) (x : LS) (w0 w : World) : Prop where
  rd : RD q r x.gen base u x.dead x.disk zs v0 v2 w0 w
  row : w.ownsRow ub 9 1 u x.recs.length (strVals x.recs)
  far : ∀ k, v0.ownBlock = some k → u.ownBlock ≠ some k
section
variable {q r base ub : Nat} {u v0 v2 : Value} {zs : List Int} {x : LS} {w0 w w' : World}
theorem RL.texts (h : RL q r base ub u v0 v2 zs x w0 w) : TextsAt w u x.recs := texts_of_row h.row
theorem RL.below (h : RL q r base ub u v0 v2 zs x w0 w) (k : Below w.heap.size w w') : RL q r base ub u v0 v2 zs x w0 w' :=
  ⟨h.rd.below k, owns_stay h.row (Stir.of_below (F := fun _ => False) k) (fun _ _ e => e), h.far⟩
theorem RD.row_apart {n0 : Nat} {u' : Value} {d0 : Bool} {s0 : DS} (h : RD q r n0 base u' d0 s0 zs v0 v2 w0 w) {u : Value} {xs : List Value} {m : Nat} (hr : w.ownsRow ub 9 1 u m xs) (hf : ∀ k, v0.ownBlock = some k → u.ownBlock ≠ some k) :
    ∀ i, u.ownBlock = some i → ¬ (i = q ∨ RF r v0 i) := by
  intro i hi e
  obtain ⟨C, hC⟩ := owns_block hr hi
  rcases e with rfl | rfl | e
  · rw [h.obj] at hC; simp [RLO] at hC
  · obtain ⟨v1, kp, hd⟩ := h.ref
    rw [hd.obj] at hC; simp [RO] at hC
  · exact hf i e hi

theorem RL.start0 (h : RL q r base ub u v0 v2 zs x w0 w) : RL q r base ub u v0 v2 zs x w w := ⟨⟨h.rd.obj, h.rd.ref, Stir.refl _ w⟩, h.row, h.far⟩
def RAns (q r base : Nat) (v0 v2 : Value) (zs : List Int) (E : Int) (y : LS) (w : World) (e : Ending) (w' : World) : Prop := ∃ ub' u', e = .returned (.int .i64 E) ∧ RL q r base ub' u' v0 v2 zs y w w' ∧ ub' ≤ w'.heap.size
theorem fill_zeros (X : ByteArray) : X ++ nought (64 - X.size) = fillB X := by
  unfold fillB
  rfl
theorem sec_cut (all : List UInt8) (j m : Nat) (hm : m = min all.length (64 * j + 64)) : (bsL all).extract (64 * j) m = bsL ((all.drop (64 * j)).take 64) := by
  apply ByteArray.ext
  apply Array.toList_inj.1
  rw [Lib.extract_data, data_bsL, data_bsL, hm, List.take_eq_take_min (i := 64), List.length_drop]
  congr 1
  omega
theorem slice_cut (x : ByteArray) (i j : Nat) (hij : i ≤ j) (hj : j ≤ x.size) (W : World) :
    (Instr.slice 9 (.string x) (some (.int .i64 (i : Int))) (some (.int .i64 (j : Int))) none).run Tryz.prog W = .ok (.string (x.extract i j)) W := by
  have := run_slice_string W 9 x .i64 .i64 (i : Int) (j : Int) Tryz.underlying9 (by omega) (by omega) (by omega)
  rw [Int.toNat_natCast, Int.toNat_natCast] at this
  exact this
theorem rl_end {w5 w7 : World} {y : LS} (h0 : RL q r base ub u v0 v2 zs x w w5) (hb : Below w.heap.size w w5) (h7 : RD q r y.gen base u y.dead y.disk zs v0 v2 w5 w7) (hr : y.recs = x.recs) : RL q r base ub u v0 v2 zs y w w7 :=
  ⟨⟨h7.obj, h7.ref, (Stir.of_below hb).trans h7.stir (fun _ e => .inl e)⟩, by rw [hr]; exact owns_stay h0.row h7.stir (h0.start0.rd.row_apart h0.row h0.far), h0.far⟩
theorem rl_new {w5 w7 : World} {y : LS} {ub' : Nat} {u' : Value} (h0 : RL q r base ub u v0 v2 zs x w w5) (hb : Below w.heap.size w w5) (h7 : RD q r y.gen base u y.dead y.disk zs v0 v2 w5 w7) (hrow : w5.ownsRow ub' 9 1 u' y.recs.length (strVals y.recs)) (hfar : ∀ k, v0.ownBlock = some k → u'.ownBlock ≠ some k) :
    RL q r base ub' u' v0 v2 zs y w (w7.setCell ⟨q, 2, none⟩ u') := by
  have hap := h0.start0.rd.row_apart hrow hfar
  have hl := h7.list (u' := u')
  exact ⟨⟨hl.obj, hl.ref, (Stir.of_below hb).trans hl.stir (fun _ e => .inl e)⟩, owns_stay (owns_stay hrow h7.stir hap) ((Stir.refl (· = q) w7).set (.inl rfl) u') (fun i hi e => hap i hi (.inl e)), hfar⟩
theorem take_oneH {ops : Array Oper} {Q : Exit → Act → World → Prop} {md : Region.Mode} {S : World → Prop} {i : Nat} {oi : Oper} {v : Value} {fuel : Nat} {listed : Array Bool} {a : Act} {w : World} (d : Nat) (hi : ops[i]? = some oi) (hd : oi.dst = some d)
    (hs : Region.noSelect ops = true) (hf : Region.free md ops listed i = true) (hr : (Region.ready md ops listed).contains i = true)
    (hQ : ∀ c a w, Q (.panic c) (a.put oi.dst v) w → Q (.panic c) a w) (hy : YieldsIf Tryz.prog ops S oi v a) (hS : S w)
    (h : wpAnyH Tryz.prog md ops Q S fuel (listed.setIfInBounds i true) (a.put (some d) v) w) : wpAnyH Tryz.prog md ops Q S (fuel + 1) listed a w :=
  wpAnyH_take hi hs hf hr hQ hy hS (by rw [hd]; exact h)
theorem step_texts {ops : Array Oper} {rest : List Oper} {o : Oper} {a : Act} {w : World} {Q : Exit → Act → World → Prop} (hgd : o.guard = none) (s x : Operand)
    (ho : o.op = .call { callee := .builtin .append, args := #[s, x], argTypes := #[45, 45] })
    (B : Nat) (v : Value) (hs : a.eval s = v) (hown : w.ownsRow B 9 1 v 0 []) (u : Value) (L : List ByteArray) (hx : a.eval x = u) {ub : Nat} (hu : w.ownsRow ub 9 1 u L.length (strVals L)) (hL : L.length ≤ 1000000) (hB : B ≤ w.heap.size) (hv : v ≠ .slice none 0 0)
    (h : ∀ v' w', w'.ownsRow B 9 1 v' L.length (strVals L) → w.grownBy w' v.ownBlock → v' ≠ .slice none 0 0 → wpList Tryz.prog ops Q rest (a.put o.dst v') w') : wpList Tryz.prog ops Q (o :: rest) a w := by
  obtain ⟨i, hi, hz0, hz1, hz2⟩ := info_parts infoX
  rcases hu.2 with ⟨rfl, h0⟩ | ⟨g, cap, cur, rfl, _, hg, h4, h5, h6, h7⟩
  · have hl : L = [] := List.eq_nil_of_length_eq_zero h0
    subst hl
    exact wpList_append_own_none hgd s x _ ho B _ i 1 Tryz.underlying45 hi v 0 [] hs hown hx (h v w hown (World.grownBy.refl _ _) hv)
  · refine wpList_append_own w hgd s x _ ho B _ i (.string ⟨#[]⟩) 1 16 Tryz.underlying45 hi hz0 hz1 hz2 rfl (by decide) v 0 [] hs hown ⟨g, 0, none⟩ L.length cap (strVals L) hx (by simp [strVals]) (fun j y hj => ?_) (fun y hy => ?_) (by unfold maxLen; omega) (by omega) hB ?_
    · obtain ⟨h1, h2⟩ := List.getElem?_eq_some_iff.1 hj
      have hjl : j < L.length := by simpa [strVals] using h1
      have := hu.cellAt (g := g) (cap := cap) j (by omega)
      rw [Addr.add_lit, Nat.zero_add, this, hj]
    · simp only [strVals, List.mem_map] at hy
      obtain ⟨b, _, rfl⟩ := hy
      rfl
    · intro v' w' h1 h2 h3
      rw [Nat.zero_add, List.nil_append] at h1
      exact h v' w' h1 h2 (fun e => hv (h3.1 e).1)
set_option maxRecDepth 100000 in
set_option maxHeartbeats 8000000 in
theorem rappend_any (h : RL q r base ub u v0 v2 zs x w w) (hk : x.disk.Ok) (hm : x.disk.made < 800000000) (hg : x.gen ≤ 1099511627776) (hub : ub ≤ w.heap.size) (hfit : (recB x.recs).length ≤ 64 * halfN x.disk) (hfew : x.recs.length ≤ 1000000) (_hsz : ∀ y ∈ x.recs, y.size ≤ 1300) (rec : ByteArray) (hr : rec.size ≤ 140737488355328) :
    Calls Tryz.prog 8 #[.pointer (some ⟨q, 0, none⟩), .string rec] w fun e w' => RAns q r base v0 v2 zs (x.appE rec) (x.app rec) w e w' := by
  have hN : 64 * halfN x.disk ≤ 1048576 := by have := hk.le; unfold halfN; omega
  obtain ⟨E, hE⟩ : ∃ E, x.appE rec = E := ⟨_, rfl⟩
  obtain ⟨y, hy⟩ : ∃ y, x.app rec = y := ⟨_, rfl⟩
  rw [hE, hy]
  have HL := Lib.hid h
  by_cases h1 : 1300 < rec.size
  · obtain rfl : 71 = E := by rw [← hE]; simp [LS.appE, h1]
    obtain rfl : x = y := by rw [← hy]; simp [LS.app, h1]
    have h1i : (1300 : Int) < (rec.size : Int) := by omega
    clear h h1 hE hy
    go_enter Tryz.func8, Tryz.ntmps8
    go_wp2
    go_ret
    exact ⟨ub, u, rfl, HL.out, hub⟩
  · have h1i : ¬ (1300 : Int) < (rec.size : Int) := by omega
    have c3 := RLO.c3 h.rd.obj
    cases hd : x.dead with
    | true =>
      obtain rfl : 2 = E := by rw [← hE]; simp [LS.appE, h1, hd]
      obtain rfl : x = y := by rw [← hy]; simp [LS.app, h1, hd]
      rw [hd] at c3
      clear h h1 hd hE hy
      go_enter Tryz.func8, Tryz.ntmps8
      go_wp2
      go_ret
      exact ⟨ub, u, rfl, HL.out, hub⟩
    | false =>
      rw [hd] at c3
      have CR := rroom_any h.rd hk h.texts (by omega) (by omega)
      by_cases hf : 64 * halfN x.disk < (recB x.recs).length + 2 + rec.size
      · obtain rfl : 72 = E := by rw [← hE]; simp [LS.appE, h1, hd, LS.full, hf]
        obtain rfl : x = y := by rw [← hy]; simp [LS.app, h1, hd, LS.full, hf]
        have hgt : ((64 * halfN x.disk : Nat) : Int) - ((recB x.recs).length : Int) < 2 + (rec.size : Int) := by omega
        clear h h1 hd hE hy
        generalize ((64 * halfN x.disk : Nat) : Int) - ((recB x.recs).length : Int) = Z at *
        go_enter Tryz.func8, Tryz.ntmps8
        go_wp2_with fail
        refine CR.mono ?_
        rintro e w1 ⟨rfl, hB1⟩
        have H1 := Lib.hid (HL.out.below hB1)
        have hs1 := hB1.size
        clear hB1 CR
        go_wp2
        go_ret
        exact ⟨ub, u, rfl, H1.out, by omega⟩
      · have hgt : ¬ ((64 * halfN x.disk : Nat) : Int) - ((recB x.recs).length : Int) < 2 + (rec.size : Int) := by omega
        have HE := Lib.hid (show E = (appD x.gen x.recs rec x.disk).1 by rw [← hE]; simp [LS.appE, h1, hd, LS.full, hf])
        have HY := Lib.hid (show y = if (appD x.gen x.recs rec x.disk).1 = 0 then { x with recs := x.recs ++ [rec], disk := (appD x.gen x.recs rec x.disk).2 } else { x with dead := (appD x.gen x.recs rec x.disk).1 == 2, disk := (appD x.gen x.recs rec x.disk).2 } by rw [← hy]; simp [LS.app, h1, hd, LS.full, hf])
        have HF := Lib.hid hf
        have HD := Lib.hid hd
        obtain ⟨Z, hZ⟩ : ∃ Z, ((64 * halfN x.disk : Nat) : Int) - ((recB x.recs).length : Int) = Z := ⟨_, rfl⟩
        rw [hZ] at CR hgt
        clear hE hy hd hf h1 hZ h
        go_enter Tryz.func8, Tryz.ntmps8
        go_wp2_with fail
        refine CR.mono ?_
        rintro e w1 ⟨rfl, hB1⟩
        have H1 := Lib.hid (HL.out.below hB1)
        have HB1 := Lib.hid hB1
        have c2 := RLO.c2 H1.out.rd.obj
        have CB := fun W (h : RL q r base ub u v0 v2 zs x w W) => rbytes_any h.texts (by omega) (by omega)
        have hsB : (bsL (recB x.recs)).size = (recB x.recs).length := size_bsL _
        generalize bsL (recB x.recs) = S0 at *
        clear hB1 CR c3
        go_wp2_with fail
        refine (CB _ H1.out).mono ?_
        rintro e w2 ⟨rfl, hB2⟩
        have H2 := Lib.hid (H1.out.below hB2)
        have HB2 := Lib.hid (HB1.out.trans (hB2.mono HB1.out.size))
        have c2 := RLO.c2 H2.out.rd.obj
        clear hB2 CB c2
        obtain ⟨i0, hi, hz0, hz1, hz2⟩ := info_parts infoX
        have HA2 := Lib.hid (H2.out.below ((Below.refl _ w2).alloc (Nat.le_refl _) (.cells #[] 9)))
        have c2a : (w2.alloc (.cells #[] 9)).cell? ⟨q, 2, none⟩ = some u := RLO.c2 HA2.out.rd.obj
        have hrow0 : (w2.alloc (.cells #[] 9)).ownsRow w2.heap.size 9 1 (.slice (some ⟨w2.heap.size, 0, none⟩) 0 0) 0 [] := World.ownsRow_made w2 #[] 0 (Nat.le_refl _) (by unfold maxLen; omega) (by simp)
        have hsz2 : w2.heap.size ≤ (w2.alloc (.cells #[] 9)).heap.size := ((Below.refl _ w2).alloc (Nat.le_refl _) _).size
        clear c2
        go_wp2_with (at_builtin; first
          | (refine step_texts rfl _ _ rfl w2.heap.size (.slice (some ⟨w2.heap.size, 0, none⟩) 0 0) rfl hrow0 u x.recs rfl HA2.out.row hfew hsz2 (by simp) ?_
             intro v3 w3 hown3 hgrow3 hnn3
             have hB3 : Below w2.heap.size w2 w3 := ((Below.refl _ w2).alloc (Nat.le_refl _) _).grown hgrow3 hsz2 (fun j ej => by cases ej; exact Nat.le_refl _)
             have hle3 := hB3.size
             obtain ⟨g3, cap3, rfl, hb3, _⟩ := row_cells hown3 hnn3)
          | (refine wpList_append_own _ rfl _ _ 45 rfl w2.heap.size 9 i0 (.string ⟨#[]⟩) 1 16 Tryz.underlying45 hi hz0 hz1 hz2 rfl (by decide) (.slice (some ⟨g3, 0, none⟩) x.recs.length cap3) x.recs.length _ rfl (hown3.alloc _) ⟨w3.heap.size, 0, none⟩ 1 1 [.string rec] rfl rfl (cell_one_new _ _ _) (by simp [Value.oneCell']) (by unfold maxLen; omega) (by omega) (Nat.le_trans hle3 ((Below.refl _ w3).alloc (Nat.le_refl _) _).size) ?_
             intro v4 w4 hown4 hgrow4 hnl4))
        have hsz4 : w2.heap.size ≤ (w3.alloc (.cells #[.string rec] 9)).heap.size := Nat.le_trans hle3 ((Below.refl _ w3).alloc (Nat.le_refl _) _).size
        have hB4 : Below w2.heap.size w2 w4 := (hB3.alloc hle3 _).grown hgrow4 hsz4 (fun j ej => by cases ej; exact hb3)
        have hv4 : v4 ≠ .slice none 0 0 := fun e => by have := (hnl4.1 e).2; cases this
        obtain ⟨g4, cap4, rfl, hb4, hg4, _⟩ := row_cells hown4 hv4
        have hrow4 : w4.ownsRow w2.heap.size 9 1 (.slice (some ⟨g4, 0, none⟩) (x.recs.length + 1) cap4) (x.recs ++ [rec]).length (strVals (x.recs ++ [rec])) := by simpa [strVals] using hown4
        have hlen : (recB (x.recs ++ [rec])).length = (recB x.recs).length + 2 + rec.size := length_recB_snoc x.recs rec
        have CB4 := rbytes_any (texts_of_row hrow4) (by have := HF.out; omega) (by rw [List.length_append]; simp; omega)
        have HKp := Lib.hid (appD_keep x.gen x.recs rec x.disk)
        rw [HKp.out] at HE HY
        obtain ⟨all, hall⟩ : ∃ all, recB (x.recs ++ [rec]) = all := ⟨_, rfl⟩
        rw [hall] at CB4 HE HY hlen HKp
        have H4 := Lib.hid (H2.out.below hB4)
        have HB4 := Lib.hid (HB2.out.trans (hB4.mono HB2.out.size))
        have HRow4 := Lib.hid hrow4
        have hlow := Nat.le_trans HB2.out.size hb4
        have hg4' := hg4
        have HFar := Lib.hid (show ∀ k, v0.ownBlock = some k → (Value.slice (some ⟨g4, 0, none⟩) (x.recs.length + 1) cap4).ownBlock ≠ some k from fun k hk2 e => by
          obtain ⟨v1, kp, hr0⟩ := HL.out.rd.ref
          obtain ⟨C, hC⟩ := owns_block hr0.st hk2
          have := lt_of_heap hC
          have e2 : g4 = k := by simpa [Value.ownBlock] using e
          omega)
        clear hrow0 hsz2 hown3 hgrow3 hnn3 hB3 hle3 hb3 hown4 hgrow4 hnl4 hsz4 hB4 hv4 hrow4 HA2 c2a HL H1 H2 hi hz0 hz1 hz2
        go_wp2_with fail
        refine CB4.mono ?_
        rintro e w5 ⟨rfl, hB5⟩
        have HB5 := Lib.hid (HB4.out.trans (hB5.mono HB4.out.size))
        have HRow5 := Lib.hid (owns_stay HRow4.out (Stir.of_below (F := fun _ => False) hB5) (fun _ _ e => e))
        have H5 := Lib.hid (H4.out.below hB5)
        have hr5 := H5.out.start0.rd
        rw [HD.out] at hr5
        have HR5 := Lib.hid hr5
        have hS : (bsL all).size = all.length := size_bsL _
        have HLen := Lib.hid hlen
        have HNH := Lib.hid (And.intro hN HF.out)
        generalize hSS : bsL all = S at *
        have HSS := Lib.hid hSS
        obtain ⟨n, hn⟩ : ∃ n, (recB x.recs).length = n := ⟨_, rfl⟩
        rw [hn] at hlen HE HY HNH hsB hfit ⊢
        obtain ⟨R, hR⟩ : ∃ R, keepD x.gen n all x.disk = R := ⟨_, rfl⟩
        rw [hR] at HE HY
        have HR := Lib.hid hR
        obtain ⟨lo, hlo⟩ : ∃ lo, n / 64 = lo := ⟨_, rfl⟩
        have HLo := Lib.hid hlo
        have hn1 : n ≤ 1048576 := by omega
        have hq1 : (n : Int) / 64 = (lo : Int) := by omega
        have hq2 : (n : Int).tdiv 64 = (lo : Int) := by rw [Int.tdiv_eq_ediv_of_nonneg (by omega)]; exact hq1
        have hal : all.length ≤ 1048576 := by have := HF.out; omega
        have hlohi : lo ≤ (all.length + 63) / 64 := by omega
        have HK := Lib.hid hk
        have hsti := hk.le
        have hgt2 := HNH.out.2
        generalize hsd : x.disk = s at *
        generalize hgd : x.gen = G at *
        obtain ⟨M, hM⟩ : ∃ M, halfN s = M := ⟨_, rfl⟩
        have HM := Lib.hid hM
        rw [hM] at hN hfit HNH
        have hMle : M ≤ 8192 := by rw [← hM]; unfold halfN; omega
        have hhA : halfAt s.stay G = 1 + G % 2 * M := by rw [← hM]; rfl
        obtain ⟨A, hA⟩ : ∃ A, G % 2 = A := ⟨_, rfl⟩
        have hA2 : A < 2 := by omega
        have hGi : (G : Int) % 2 = (A : Int) := by omega
        have hGt : (G : Int).tmod 2 = (A : Int) := by rw [Int.tmod_eq_emod_of_nonneg (by omega)]; exact hGi
        obtain ⟨F, hF⟩ : ∃ F, A * M = F := ⟨_, rfl⟩
        rw [hA, hF] at hhA
        have hFle : F ≤ 8192 := by
          have : A = 0 ∨ A = 1 := by omega
          rcases this with rfl | rfl <;> omega
        have hFi : (A : Int) * (M : Int) = (F : Int) := by rw [← hF]; simp
        have HHA := Lib.hid hhA
        have HFit := Lib.hid (show 1 + F + (all.length + 63) / 64 ≤ 65535 by omega)
        clear hR hlo hn hlen hSS hall hr5 hk hsd hgd hM hfit hhA hF hB5 hg4 hgt2
        go_wp2
        go_loopw [8] (fun i wr => ∃ (j : Nat) (sj : DS), lo ≤ j ∧ j ≤ (all.length + 63) / 64 ∧ i = .int .i64 j ∧ Hid (puts (1 + F) all ((all.length + 63) / 64 - lo) lo s = puts (1 + F) all ((all.length + 63) / 64 - j) j sj) ∧ Hid (RD q r G base u false sj zs v0 v2 w5 wr) ∧ Hid sj.Ok ∧ sj.made ≤ s.made + j ∧ sj.stay.length = s.stay.length) (fun i _ => (all.length + 63) / 64 - (intOf i).toNat)
        case atStart => exact ⟨lo, s, Nat.le_refl _, hlohi, rfl, Lib.hid rfl, HR5, HK, by omega, rfl⟩
        case round =>
          obtain ⟨j, sj, hj1, hj2, rfl, HP, HRd, HOk, hmj, hlj⟩ := hrel
          by_cases hlt : 64 * j < all.length
          · obtain ⟨k, hk⟩ : ∃ k, (all.length + 63) / 64 - j = k + 1 := ⟨(all.length + 63) / 64 - j - 1, by omega⟩
            have hk2 : (all.length + 63) / 64 - (j + 1) = k := by omega
            obtain ⟨mn, e1, e2, e3, hmn⟩ := clampMin S.size (64 * j + 64)
            rw [show ((64 * j + 64 : Nat) : Int) = 64 * (j : Int) + 64 by omega] at e1 e2 e3
            rw [hS] at hmn
            have hX : S.extract (64 * j) mn = bsL ((all.drop (64 * j)).take 64) := by rw [← HSS.out]; exact sec_cut all j mn hmn
            have hXs : (bsL ((all.drop (64 * j)).take 64)).size = mn - 64 * j := by rw [← hX, ByteArray.size_extract, hS]; omega
            have hsl : ∀ W, (Instr.slice 9 (.string S) (some (.int .i64 (64 * (j : Int)))) (some (.int .i64 (mn : Int))) none).run Tryz.prog W = .ok (.string (bsL ((all.drop (64 * j)).take 64))) W := fun W => by
              have := slice_cut S (64 * j) mn (by omega) (by omega) W
              rwa [hX, show ((64 * j : Nat) : Int) = 64 * (j : Int) by omega] at this
            have hFz : bsL ((all.drop (64 * j)).take 64) ++ nought (64 - (bsL ((all.drop (64 * j)).take 64)).size) = secB all j := by rw [fill_zeros, secB_fill]
            have HGo := Lib.hid (fun h => puts_go (from_ := 1 + F) (all := all) (k := k) (i := j) (s := sj) h)
            have HStop := Lib.hid (fun h => puts_stop (from_ := 1 + F) (all := all) (k := k) (i := j) (s := sj) h)
            rw [hk] at HP
            clear hX
            generalize bsL ((all.drop (64 * j)).take 64) = X at *
            generalize secB all j = Y at *
            obtain ⟨z, hz⟩ : ∃ z : Nat, 64 - X.size = z := ⟨_, rfl⟩
            have hzX : X.size + z = 64 := by omega
            have e64 : (64 : Int) - (X.size : Int) = (z : Int) := by omega
            have hmnS : (mn : Int) ≤ (S.size : Int) := by omega
            have hjmn : 64 * (j : Int) ≤ (mn : Int) := by omega
            rw [hz] at hFz
            obtain ⟨m1, m2⟩ := made_text wr.drew z (by omega)
            have hnz : (nought z).size = z := size_nought z
            generalize nought z = Zt at *
            have hszz : ¬ 9223372036854775807 < X.size + Zt.size := by omega
            have hszy : ¬ 9223372036854775807 < X.size + z := by omega
            have hYs : ¬ 9223372036854775807 < Y.size := by rw [← hFz, ByteArray.size_append]; omega
            have HRa := Lib.hid HRd.out.drew
            generalize hMc : madeCells #[.int .u8 0] z = Mc at *
            obtain ⟨wa, hwa⟩ : ∃ wa, (wr.alloc (.cells Mc 5)).drew = wa := ⟨_, rfl⟩
            have HRb := Lib.hid (show RD q r G base u false sj zs v0 v2 w5 wa by rw [← hwa]; exact HRa.out.below ((Below.refl _ wr.drew).alloc (Nat.le_refl _) (.cells Mc 5)))
            have m1' : (Instr.makeSlice 74 (.int .i64 (z : Int)) (.int .i64 (z : Int))).run Tryz.prog wr.drew = .ok (.slice (some ⟨wr.heap.size, 0, none⟩) z z) wa := by rw [← hwa]; exact m1
            have m2' : (convert 74 9 (.slice (some ⟨wr.heap.size, 0, none⟩) z z)).run Tryz.prog wa = .ok (.string Zt) wa := by rw [← hwa]; exact m2
            clear m1 m2
            have hhj : halfN sj = M := by rw [← HM.out]; unfold halfN; rw [hlj]
            have CHa := rhalf_any HRa.out HOk.out
            have CHb := rhalf_any HRb.out HOk.out
            rw [hhj] at CHa CHb
            have c0 := RLO.c0 HRa.out.obj
            have c1 := RLO.c1 HRa.out.obj
            have d0 := RLO.c0 HRb.out.obj
            have d1 := RLO.c1 HRb.out.obj
            have hji : 64 * (j : Int) < (S.size : Int) := by omega
            have hm2 : IntKind.i64.wrap (64 * (j : Int)) = 64 * (j : Int) := IntWalk.i64_in _ (by omega)
            have hm2b : IntKind.i64.wrap (64 * (j : Int) + 64) = 64 * (j : Int) + 64 := IntWalk.i64_in _ (by omega)
            have hm3 : IntKind.i64.wrap (F : Int) = (F : Int) := IntWalk.i64_in _ (by omega)
            have hm4 : IntKind.i64.wrap (1 + (F : Int)) = 1 + (F : Int) := IntWalk.i64_in _ (by omega)
            have hm5 : IntKind.i64.wrap (1 + (F : Int) + (j : Int)) = ((1 + F + j : Nat) : Int) := by rw [IntWalk.i64_in _ (by omega)]; omega
            have hm6 : IntKind.i64.wrap (z : Int) = (z : Int) := IntWalk.i64_in _ (by omega)
            have CW := fun W v1 kp (h : RefAt r base sj zs v0 v1 v2 kp W) => rwrite_at h HOk.out (by omega) ((1 + F + j : Nat) : Int) ⟨by omega, by omega⟩ Y
            have CT := fun W dead s e (h : RD q r G base u dead s zs v0 v2 w5 W) => rtold_any h e
            have hmw := made_write' sj ((1 + F + j : Nat) : Int) Y
            have hlw := len_write sj ((1 + F + j : Nat) : Int) Y
            have HOk2 := Lib.hid (HOk.out.write ((1 + F + j : Nat) : Int) Y)
            have hn0 : (1 + F + j : Nat) = 1 + F + j := rfl
            generalize 1 + F + j = n0 at *
            clear hn0 hzX hz hMc hXs hS HRd hmn
            by_cases hE : sj.writeE (n0 : Int) Y = 0
            · rw [hE] at CW
              have HG2 := Lib.hid (HGo.out hE)
              clear hE HGo HStop
              go_wp2_with fail
              refine wp_region_held_drew (S := fun w' => w'.cell? ⟨q, 0, none⟩ = some (.pointer (some ⟨r, 0, none⟩)) ∧ w'.cell? ⟨q, 1, none⟩ = some (.int .i64 G)) (by kernel_rfl) ⟨c0, c1⟩ (fun hHeld => ?_)
              refine take_oneH 61 (i := 0) (v := .pointer (some ⟨q, 0, none⟩)) rfl rfl (by kernel_rfl) (by kernel_rfl) (by kernel_rfl) (fun _ _ _ h => h) (Or.inl ⟨by kernel_rfl, fun w hSw => by (go_simp)⟩) (by assumption) ?_
              simp only [Act.put, List.setIfInBounds_toArray, List.set_cons_zero, List.set_cons_succ]
              refine take_oneH 62 (i := 1) (v := .pointer (some ⟨q, 0, none⟩)) rfl rfl (by kernel_rfl) (by kernel_rfl) (by kernel_rfl) (fun _ _ _ h => h) (Or.inl ⟨by kernel_rfl, fun w hSw => by (go_simp)⟩) (by assumption) ?_
              simp only [Act.put, List.setIfInBounds_toArray, List.set_cons_zero, List.set_cons_succ]
              refine take_oneH 63 (i := 2) (v := .pointer (some ⟨q, 0, none⟩)) rfl rfl (by kernel_rfl) (by kernel_rfl) (by kernel_rfl) (fun _ _ _ h => h) (Or.inl ⟨by kernel_rfl, fun w hSw => by (go_simp)⟩) (by assumption) ?_
              simp only [Act.put, List.setIfInBounds_toArray, List.set_cons_zero, List.set_cons_succ]
              refine take_oneH 64 (i := 3) (v := .pointer (some ⟨q, 0, none⟩)) rfl rfl (by kernel_rfl) (by kernel_rfl) (by kernel_rfl) (fun _ _ _ h => h) (Or.inl ⟨by kernel_rfl, fun w hSw => by (go_simp)⟩) (by assumption) ?_
              simp only [Act.put, List.setIfInBounds_toArray, List.set_cons_zero, List.set_cons_succ]
              refine take_oneH 65 (i := 4) (v := .pointer (some ⟨r, 0, none⟩)) rfl rfl (by kernel_rfl) (by kernel_rfl) (by kernel_rfl) (fun _ _ _ h => h) (Or.inl ⟨by kernel_rfl, fun w hSw => by (obtain ⟨s0, s1⟩ := hSw; go_simp)⟩) (by assumption) ?_
              simp only [Act.put, List.setIfInBounds_toArray, List.set_cons_zero, List.set_cons_succ]
              refine take_oneH 66 (i := 5) (v := .pointer (some ⟨q, 0, none⟩)) rfl rfl (by kernel_rfl) (by kernel_rfl) (by kernel_rfl) (fun _ _ _ h => h) (Or.inl ⟨by kernel_rfl, fun w hSw => by (go_simp)⟩) (by assumption) ?_
              simp only [Act.put, List.setIfInBounds_toArray, List.set_cons_zero, List.set_cons_succ]
              refine take_oneH 67 (i := 6) (v := .pointer (some ⟨q, 0, none⟩)) rfl rfl (by kernel_rfl) (by kernel_rfl) (by kernel_rfl) (fun _ _ _ h => h) (Or.inl ⟨by kernel_rfl, fun w hSw => by (go_simp)⟩) (by assumption) ?_
              simp only [Act.put, List.setIfInBounds_toArray, List.set_cons_zero, List.set_cons_succ]
              refine take_oneH 68 (i := 7) (v := .pointer (some ⟨q, 1, none⟩)) rfl rfl (by kernel_rfl) (by kernel_rfl) (by kernel_rfl) (fun _ _ _ h => h) (Or.inl ⟨by kernel_rfl, fun w hSw => by (go_simp)⟩) (by assumption) ?_
              simp only [Act.put, List.setIfInBounds_toArray, List.set_cons_zero, List.set_cons_succ]
              refine take_oneH 69 (i := 8) (v := .int .i64 G) rfl rfl (by kernel_rfl) (by kernel_rfl) (by kernel_rfl) (fun _ _ _ h => h) (Or.inl ⟨by kernel_rfl, fun w hSw => by (obtain ⟨s0, s1⟩ := hSw; go_simp)⟩) (by assumption) ?_
              simp only [Act.put, List.setIfInBounds_toArray, List.set_cons_zero, List.set_cons_succ]
              refine take_oneH 70 (i := 9) (v := .int .i64 A) rfl rfl (by kernel_rfl) (by kernel_rfl) (by kernel_rfl) (fun _ _ _ h => h) (Or.inl ⟨by kernel_rfl, fun w hSw => by (go_simp)⟩) (by assumption) ?_
              simp only [Act.put, List.setIfInBounds_toArray, List.set_cons_zero, List.set_cons_succ]
              refine take_oneH 71 (i := 10) (v := .pointer (some ⟨q, 0, none⟩)) rfl rfl (by kernel_rfl) (by kernel_rfl) (by kernel_rfl) (fun _ _ _ h => h) (Or.inl ⟨by kernel_rfl, fun w hSw => by (go_simp)⟩) (by assumption) ?_
              simp only [Act.put, List.setIfInBounds_toArray, List.set_cons_zero, List.set_cons_succ]
              refine take_oneH 75 (i := 14) (v := .int .i64 j) rfl rfl (by kernel_rfl) (by kernel_rfl) (by kernel_rfl) (fun _ _ _ h => h) (Or.inl ⟨by kernel_rfl, fun w hSw => by (go_simp)⟩) (by assumption) ?_
              simp only [Act.put, List.setIfInBounds_toArray, List.set_cons_zero, List.set_cons_succ]
              refine take_oneH 77 (i := 16) (v := .string X) rfl rfl (by kernel_rfl) (by kernel_rfl) (by kernel_rfl) (fun _ _ _ h => h) (Or.inl ⟨by kernel_rfl, fun w hSw => by (go_simp)⟩) (by assumption) ?_
              simp only [Act.put, List.setIfInBounds_toArray, List.set_cons_zero, List.set_cons_succ]
              refine take_oneH 78 (i := 17) (v := .string X) rfl rfl (by kernel_rfl) (by kernel_rfl) (by kernel_rfl) (fun _ _ _ h => h) (Or.inl ⟨by kernel_rfl, fun w hSw => by (go_simp)⟩) (by assumption) ?_
              simp only [Act.put, List.setIfInBounds_toArray, List.set_cons_zero, List.set_cons_succ]
              refine take_oneH 79 (i := 18) (v := .int .i64 X.size) rfl rfl (by kernel_rfl) (by kernel_rfl) (by kernel_rfl) (fun _ _ _ h => h) (Or.inl ⟨by kernel_rfl, fun w hSw => by (go_simp)⟩) (by assumption) ?_
              simp only [Act.put, List.setIfInBounds_toArray, List.set_cons_zero, List.set_cons_succ]
              refine take_oneH 80 (i := 19) (v := .int .i64 z) rfl rfl (by kernel_rfl) (by kernel_rfl) (by kernel_rfl) (fun _ _ _ h => h) (Or.inl ⟨by kernel_rfl, fun w hSw => by (go_simp)⟩) (by assumption) ?_
              simp only [Act.put, List.setIfInBounds_toArray, List.set_cons_zero, List.set_cons_succ]
              refine wpAnyH_ready (rs := [11, 20]) (by kernel_rfl) (by simp) ?_
              refine AllReadyH.cons rfl (fun K hK => ?_) (AllReadyH.cons rfl (fun K hK => ?_) (AllReadyH.nil))
              · go_simp
                go_at_call 59
                refine CHa.mono ?_
                rintro e w' ⟨rfl, rfl⟩
                go_wp2_with fail
                refine hK.out _ _ ⟨c0, c1⟩ (fun hHeld => ?_)
                clear hK K
                try simp only [Act.put, List.setIfInBounds_toArray, List.set_cons_zero, List.set_cons_succ]
                refine take_oneH 73 (i := 12) (v := .int .i64 F) rfl rfl (by kernel_rfl) (by kernel_rfl) (by kernel_rfl) (fun _ _ _ h => h) (Or.inl ⟨by kernel_rfl, fun w hSw => by (go_simp)⟩) (by assumption) ?_
                simp only [Act.put, List.setIfInBounds_toArray, List.set_cons_zero, List.set_cons_succ]
                refine take_oneH 74 (i := 13) (v := .int .i64 (1 + (F : Int))) rfl rfl (by kernel_rfl) (by kernel_rfl) (by kernel_rfl) (fun _ _ _ h => h) (Or.inl ⟨by kernel_rfl, fun w hSw => by (go_simp)⟩) (by assumption) ?_
                simp only [Act.put, List.setIfInBounds_toArray, List.set_cons_zero, List.set_cons_succ]
                refine take_oneH 76 (i := 15) (v := .int .i64 n0) rfl rfl (by kernel_rfl) (by kernel_rfl) (by kernel_rfl) (fun _ _ _ h => h) (Or.inl ⟨by kernel_rfl, fun w hSw => by (go_simp)⟩) (by assumption) ?_
                simp only [Act.put, List.setIfInBounds_toArray, List.set_cons_zero, List.set_cons_succ]
                refine wpAnyH_ready (rs := [20]) (by kernel_rfl) (by simp) ?_
                refine AllReadyH.cons rfl (fun K hK => ?_) (AllReadyH.nil)
                go_simp
                refine hK.out _ _ ⟨d0, d1⟩ (fun hHeld => ?_)
                clear hK K
                try simp only [Act.put, List.setIfInBounds_toArray, List.set_cons_zero, List.set_cons_succ]
                refine wpAnyH_ready (rs := [21]) (by kernel_rfl) (by simp) ?_
                refine AllReadyH.cons rfl (fun K hK => ?_) (AllReadyH.nil)
                go_simp
                refine hK.out _ _ ⟨d0, d1⟩ (fun hHeld => ?_)
                clear hK K
                try simp only [Act.put, List.setIfInBounds_toArray, List.set_cons_zero, List.set_cons_succ]
                refine take_oneH 83 (i := 22) (v := .string Y) rfl rfl (by kernel_rfl) (by kernel_rfl) (by kernel_rfl) (fun _ _ _ h => h) (Or.inl ⟨by kernel_rfl, fun w hSw => by (go_simp)⟩) (by assumption) ?_
                simp only [Act.put, List.setIfInBounds_toArray, List.set_cons_zero, List.set_cons_succ]
                refine wpAnyH_ready (rs := [23]) (by kernel_rfl) (by simp) ?_
                refine AllReadyH.cons rfl (fun K hK => ?_) (AllReadyH.nil)
                go_simp
                go_at_call 58
                obtain ⟨v1, kp, hr5⟩ := HRb.out.ref
                refine (CW _ _ _ hr5).mono ?_
                rintro e w6 ⟨rfl, h6, s6⟩
                have H6 := Lib.hid (HRb.out.turn h6 s6)
                have e0 := RLO.c0 H6.out.obj
                have e1 := RLO.c1 H6.out.obj
                clear h6 s6 hr5
                go_wp2_with fail
                refine hK.out _ _ ⟨e0, e1⟩ (fun hHeld => ?_)
                clear hK K
                try simp only [Act.put, List.setIfInBounds_toArray, List.set_cons_zero, List.set_cons_succ]
                refine wpAnyH_ready (rs := [24]) (by kernel_rfl) (by simp) ?_
                refine AllReadyH.cons rfl (fun K hK => ?_) (AllReadyH.nil)
                go_simp
                go_at_call 57
                refine (CT _ _ _ _ H6.out).mono ?_
                rintro e w7 ⟨rfl, h7⟩
                have H7 := Lib.hid h7
                have f0 := RLO.c0 H7.out.obj
                have f1 := RLO.c1 H7.out.obj
                clear h7
                go_wp2_with fail
                refine hK.out _ _ ⟨f0, f1⟩ (fun hHeld => ?_)
                clear hK K
                try simp only [Act.put, List.setIfInBounds_toArray, List.set_cons_zero, List.set_cons_succ]
                refine take_oneH 10 (i := 25) (v := .int .i64 0) rfl rfl (by kernel_rfl) (by kernel_rfl) (by kernel_rfl) (fun _ _ _ h => h) (Or.inl ⟨by kernel_rfl, fun w hSw => by (go_simp)⟩) (by assumption) ?_
                simp only [Act.put, List.setIfInBounds_toArray, List.set_cons_zero, List.set_cons_succ]
                refine wpAnyH_done (by kernel_rfl) ?_ _
                have h7 := H7.out
                rw [show (false || ((0 : Int) == 2)) = false by simp] at h7
                have H8 := Lib.hid h7
                clear CHa CHb CW CT h7 H7
                go_wp2
                go_roundw
                case rel => exact ⟨j + 1, sj.write n0 Y, by omega, by omega, by go_num, Lib.hid (by rw [HP.out, HG2.out, hk2]), H8, HOk2, by omega, hlw.trans hlj⟩
                case measure => simp [intOf]; omega
              · go_simp
                refine hK.out _ _ ⟨d0, d1⟩ (fun hHeld => ?_)
                clear hK K
                try simp only [Act.put, List.setIfInBounds_toArray, List.set_cons_zero, List.set_cons_succ]
                refine wpAnyH_ready (rs := [11, 21]) (by kernel_rfl) (by simp) ?_
                refine AllReadyH.cons rfl (fun K hK => ?_) (AllReadyH.cons rfl (fun K hK => ?_) (AllReadyH.nil))
                · go_simp
                  go_at_call 59
                  refine CHb.mono ?_
                  rintro e w' ⟨rfl, rfl⟩
                  go_wp2_with fail
                  refine hK.out _ _ ⟨d0, d1⟩ (fun hHeld => ?_)
                  clear hK K
                  try simp only [Act.put, List.setIfInBounds_toArray, List.set_cons_zero, List.set_cons_succ]
                  refine take_oneH 73 (i := 12) (v := .int .i64 F) rfl rfl (by kernel_rfl) (by kernel_rfl) (by kernel_rfl) (fun _ _ _ h => h) (Or.inl ⟨by kernel_rfl, fun w hSw => by (go_simp)⟩) (by assumption) ?_
                  simp only [Act.put, List.setIfInBounds_toArray, List.set_cons_zero, List.set_cons_succ]
                  refine take_oneH 74 (i := 13) (v := .int .i64 (1 + (F : Int))) rfl rfl (by kernel_rfl) (by kernel_rfl) (by kernel_rfl) (fun _ _ _ h => h) (Or.inl ⟨by kernel_rfl, fun w hSw => by (go_simp)⟩) (by assumption) ?_
                  simp only [Act.put, List.setIfInBounds_toArray, List.set_cons_zero, List.set_cons_succ]
                  refine take_oneH 76 (i := 15) (v := .int .i64 n0) rfl rfl (by kernel_rfl) (by kernel_rfl) (by kernel_rfl) (fun _ _ _ h => h) (Or.inl ⟨by kernel_rfl, fun w hSw => by (go_simp)⟩) (by assumption) ?_
                  simp only [Act.put, List.setIfInBounds_toArray, List.set_cons_zero, List.set_cons_succ]
                  refine wpAnyH_ready (rs := [21]) (by kernel_rfl) (by simp) ?_
                  refine AllReadyH.cons rfl (fun K hK => ?_) (AllReadyH.nil)
                  go_simp
                  refine hK.out _ _ ⟨d0, d1⟩ (fun hHeld => ?_)
                  clear hK K
                  try simp only [Act.put, List.setIfInBounds_toArray, List.set_cons_zero, List.set_cons_succ]
                  refine take_oneH 83 (i := 22) (v := .string Y) rfl rfl (by kernel_rfl) (by kernel_rfl) (by kernel_rfl) (fun _ _ _ h => h) (Or.inl ⟨by kernel_rfl, fun w hSw => by (go_simp)⟩) (by assumption) ?_
                  simp only [Act.put, List.setIfInBounds_toArray, List.set_cons_zero, List.set_cons_succ]
                  refine wpAnyH_ready (rs := [23]) (by kernel_rfl) (by simp) ?_
                  refine AllReadyH.cons rfl (fun K hK => ?_) (AllReadyH.nil)
                  go_simp
                  go_at_call 58
                  obtain ⟨v1, kp, hr5⟩ := HRb.out.ref
                  refine (CW _ _ _ hr5).mono ?_
                  rintro e w6 ⟨rfl, h6, s6⟩
                  have H6 := Lib.hid (HRb.out.turn h6 s6)
                  have e0 := RLO.c0 H6.out.obj
                  have e1 := RLO.c1 H6.out.obj
                  clear h6 s6 hr5
                  go_wp2_with fail
                  refine hK.out _ _ ⟨e0, e1⟩ (fun hHeld => ?_)
                  clear hK K
                  try simp only [Act.put, List.setIfInBounds_toArray, List.set_cons_zero, List.set_cons_succ]
                  refine wpAnyH_ready (rs := [24]) (by kernel_rfl) (by simp) ?_
                  refine AllReadyH.cons rfl (fun K hK => ?_) (AllReadyH.nil)
                  go_simp
                  go_at_call 57
                  refine (CT _ _ _ _ H6.out).mono ?_
                  rintro e w7 ⟨rfl, h7⟩
                  have H7 := Lib.hid h7
                  have f0 := RLO.c0 H7.out.obj
                  have f1 := RLO.c1 H7.out.obj
                  clear h7
                  go_wp2_with fail
                  refine hK.out _ _ ⟨f0, f1⟩ (fun hHeld => ?_)
                  clear hK K
                  try simp only [Act.put, List.setIfInBounds_toArray, List.set_cons_zero, List.set_cons_succ]
                  refine take_oneH 10 (i := 25) (v := .int .i64 0) rfl rfl (by kernel_rfl) (by kernel_rfl) (by kernel_rfl) (fun _ _ _ h => h) (Or.inl ⟨by kernel_rfl, fun w hSw => by (go_simp)⟩) (by assumption) ?_
                  simp only [Act.put, List.setIfInBounds_toArray, List.set_cons_zero, List.set_cons_succ]
                  refine wpAnyH_done (by kernel_rfl) ?_ _
                  have h7 := H7.out
                  rw [show (false || ((0 : Int) == 2)) = false by simp] at h7
                  have H8 := Lib.hid h7
                  clear CHa CHb CW CT h7 H7
                  go_wp2
                  go_roundw
                  case rel => exact ⟨j + 1, sj.write n0 Y, by omega, by omega, by go_num, Lib.hid (by rw [HP.out, HG2.out, hk2]), H8, HOk2, by omega, hlw.trans hlj⟩
                  case measure => simp [intOf]; omega
                · go_simp
                  refine hK.out _ _ ⟨d0, d1⟩ (fun hHeld => ?_)
                  clear hK K
                  try simp only [Act.put, List.setIfInBounds_toArray, List.set_cons_zero, List.set_cons_succ]
                  refine take_oneH 83 (i := 22) (v := .string Y) rfl rfl (by kernel_rfl) (by kernel_rfl) (by kernel_rfl) (fun _ _ _ h => h) (Or.inl ⟨by kernel_rfl, fun w hSw => by (go_simp)⟩) (by assumption) ?_
                  simp only [Act.put, List.setIfInBounds_toArray, List.set_cons_zero, List.set_cons_succ]
                  refine wpAnyH_ready (rs := [11]) (by kernel_rfl) (by simp) ?_
                  refine AllReadyH.cons rfl (fun K hK => ?_) (AllReadyH.nil)
                  go_simp
                  go_at_call 59
                  refine CHb.mono ?_
                  rintro e w' ⟨rfl, rfl⟩
                  go_wp2_with fail
                  refine hK.out _ _ ⟨d0, d1⟩ (fun hHeld => ?_)
                  clear hK K
                  try simp only [Act.put, List.setIfInBounds_toArray, List.set_cons_zero, List.set_cons_succ]
                  refine take_oneH 73 (i := 12) (v := .int .i64 F) rfl rfl (by kernel_rfl) (by kernel_rfl) (by kernel_rfl) (fun _ _ _ h => h) (Or.inl ⟨by kernel_rfl, fun w hSw => by (go_simp)⟩) (by assumption) ?_
                  simp only [Act.put, List.setIfInBounds_toArray, List.set_cons_zero, List.set_cons_succ]
                  refine take_oneH 74 (i := 13) (v := .int .i64 (1 + (F : Int))) rfl rfl (by kernel_rfl) (by kernel_rfl) (by kernel_rfl) (fun _ _ _ h => h) (Or.inl ⟨by kernel_rfl, fun w hSw => by (go_simp)⟩) (by assumption) ?_
                  simp only [Act.put, List.setIfInBounds_toArray, List.set_cons_zero, List.set_cons_succ]
                  refine take_oneH 76 (i := 15) (v := .int .i64 n0) rfl rfl (by kernel_rfl) (by kernel_rfl) (by kernel_rfl) (fun _ _ _ h => h) (Or.inl ⟨by kernel_rfl, fun w hSw => by (go_simp)⟩) (by assumption) ?_
                  simp only [Act.put, List.setIfInBounds_toArray, List.set_cons_zero, List.set_cons_succ]
                  refine wpAnyH_ready (rs := [23]) (by kernel_rfl) (by simp) ?_
                  refine AllReadyH.cons rfl (fun K hK => ?_) (AllReadyH.nil)
                  go_simp
                  go_at_call 58
                  obtain ⟨v1, kp, hr5⟩ := HRb.out.ref
                  refine (CW _ _ _ hr5).mono ?_
                  rintro e w6 ⟨rfl, h6, s6⟩
                  have H6 := Lib.hid (HRb.out.turn h6 s6)
                  have e0 := RLO.c0 H6.out.obj
                  have e1 := RLO.c1 H6.out.obj
                  clear h6 s6 hr5
                  go_wp2_with fail
                  refine hK.out _ _ ⟨e0, e1⟩ (fun hHeld => ?_)
                  clear hK K
                  try simp only [Act.put, List.setIfInBounds_toArray, List.set_cons_zero, List.set_cons_succ]
                  refine wpAnyH_ready (rs := [24]) (by kernel_rfl) (by simp) ?_
                  refine AllReadyH.cons rfl (fun K hK => ?_) (AllReadyH.nil)
                  go_simp
                  go_at_call 57
                  refine (CT _ _ _ _ H6.out).mono ?_
                  rintro e w7 ⟨rfl, h7⟩
                  have H7 := Lib.hid h7
                  have f0 := RLO.c0 H7.out.obj
                  have f1 := RLO.c1 H7.out.obj
                  clear h7
                  go_wp2_with fail
                  refine hK.out _ _ ⟨f0, f1⟩ (fun hHeld => ?_)
                  clear hK K
                  try simp only [Act.put, List.setIfInBounds_toArray, List.set_cons_zero, List.set_cons_succ]
                  refine take_oneH 10 (i := 25) (v := .int .i64 0) rfl rfl (by kernel_rfl) (by kernel_rfl) (by kernel_rfl) (fun _ _ _ h => h) (Or.inl ⟨by kernel_rfl, fun w hSw => by (go_simp)⟩) (by assumption) ?_
                  simp only [Act.put, List.setIfInBounds_toArray, List.set_cons_zero, List.set_cons_succ]
                  refine wpAnyH_done (by kernel_rfl) ?_ _
                  have h7 := H7.out
                  rw [show (false || ((0 : Int) == 2)) = false by simp] at h7
                  have H8 := Lib.hid h7
                  clear CHa CHb CW CT h7 H7
                  go_wp2
                  go_roundw
                  case rel => exact ⟨j + 1, sj.write n0 Y, by omega, by omega, by go_num, Lib.hid (by rw [HP.out, HG2.out, hk2]), H8, HOk2, by omega, hlw.trans hlj⟩
                  case measure => simp [intOf]; omega
            · have hR2 : R = (sj.writeE (n0 : Int) Y, sj.write (n0 : Int) Y) := by
                rw [← HR.out]
                refine keepD_stop ?_ hE
                rw [HHA.out, HLo.out, HP.out, HStop.out hE]
              have HR1 := Lib.hid (congrArg Prod.fst hR2)
              have hEb : (sj.writeE (n0 : Int) Y != 0) = true := by simpa using hE
              have HYe := Lib.hid (show y = { gen := G, recs := x.recs, dead := sj.writeE (n0 : Int) Y == 2, disk := sj.write (n0 : Int) Y } by
                rw [HY.out, hR2, if_neg hE])
              generalize sj.writeE (n0 : Int) Y = E1 at *
              clear hR2 hE HGo HStop
              go_wp2_with fail
              refine wp_region_held_drew (S := fun w' => w'.cell? ⟨q, 0, none⟩ = some (.pointer (some ⟨r, 0, none⟩)) ∧ w'.cell? ⟨q, 1, none⟩ = some (.int .i64 G)) (by kernel_rfl) ⟨c0, c1⟩ (fun hHeld => ?_)
              refine take_oneH 61 (i := 0) (v := .pointer (some ⟨q, 0, none⟩)) rfl rfl (by kernel_rfl) (by kernel_rfl) (by kernel_rfl) (fun _ _ _ h => h) (Or.inl ⟨by kernel_rfl, fun w hSw => by (go_simp)⟩) (by assumption) ?_
              simp only [Act.put, List.setIfInBounds_toArray, List.set_cons_zero, List.set_cons_succ]
              refine take_oneH 62 (i := 1) (v := .pointer (some ⟨q, 0, none⟩)) rfl rfl (by kernel_rfl) (by kernel_rfl) (by kernel_rfl) (fun _ _ _ h => h) (Or.inl ⟨by kernel_rfl, fun w hSw => by (go_simp)⟩) (by assumption) ?_
              simp only [Act.put, List.setIfInBounds_toArray, List.set_cons_zero, List.set_cons_succ]
              refine take_oneH 63 (i := 2) (v := .pointer (some ⟨q, 0, none⟩)) rfl rfl (by kernel_rfl) (by kernel_rfl) (by kernel_rfl) (fun _ _ _ h => h) (Or.inl ⟨by kernel_rfl, fun w hSw => by (go_simp)⟩) (by assumption) ?_
              simp only [Act.put, List.setIfInBounds_toArray, List.set_cons_zero, List.set_cons_succ]
              refine take_oneH 64 (i := 3) (v := .pointer (some ⟨q, 0, none⟩)) rfl rfl (by kernel_rfl) (by kernel_rfl) (by kernel_rfl) (fun _ _ _ h => h) (Or.inl ⟨by kernel_rfl, fun w hSw => by (go_simp)⟩) (by assumption) ?_
              simp only [Act.put, List.setIfInBounds_toArray, List.set_cons_zero, List.set_cons_succ]
              refine take_oneH 65 (i := 4) (v := .pointer (some ⟨r, 0, none⟩)) rfl rfl (by kernel_rfl) (by kernel_rfl) (by kernel_rfl) (fun _ _ _ h => h) (Or.inl ⟨by kernel_rfl, fun w hSw => by (obtain ⟨s0, s1⟩ := hSw; go_simp)⟩) (by assumption) ?_
              simp only [Act.put, List.setIfInBounds_toArray, List.set_cons_zero, List.set_cons_succ]
              refine take_oneH 66 (i := 5) (v := .pointer (some ⟨q, 0, none⟩)) rfl rfl (by kernel_rfl) (by kernel_rfl) (by kernel_rfl) (fun _ _ _ h => h) (Or.inl ⟨by kernel_rfl, fun w hSw => by (go_simp)⟩) (by assumption) ?_
              simp only [Act.put, List.setIfInBounds_toArray, List.set_cons_zero, List.set_cons_succ]
              refine take_oneH 67 (i := 6) (v := .pointer (some ⟨q, 0, none⟩)) rfl rfl (by kernel_rfl) (by kernel_rfl) (by kernel_rfl) (fun _ _ _ h => h) (Or.inl ⟨by kernel_rfl, fun w hSw => by (go_simp)⟩) (by assumption) ?_
              simp only [Act.put, List.setIfInBounds_toArray, List.set_cons_zero, List.set_cons_succ]
              refine take_oneH 68 (i := 7) (v := .pointer (some ⟨q, 1, none⟩)) rfl rfl (by kernel_rfl) (by kernel_rfl) (by kernel_rfl) (fun _ _ _ h => h) (Or.inl ⟨by kernel_rfl, fun w hSw => by (go_simp)⟩) (by assumption) ?_
              simp only [Act.put, List.setIfInBounds_toArray, List.set_cons_zero, List.set_cons_succ]
              refine take_oneH 69 (i := 8) (v := .int .i64 G) rfl rfl (by kernel_rfl) (by kernel_rfl) (by kernel_rfl) (fun _ _ _ h => h) (Or.inl ⟨by kernel_rfl, fun w hSw => by (obtain ⟨s0, s1⟩ := hSw; go_simp)⟩) (by assumption) ?_
              simp only [Act.put, List.setIfInBounds_toArray, List.set_cons_zero, List.set_cons_succ]
              refine take_oneH 70 (i := 9) (v := .int .i64 A) rfl rfl (by kernel_rfl) (by kernel_rfl) (by kernel_rfl) (fun _ _ _ h => h) (Or.inl ⟨by kernel_rfl, fun w hSw => by (go_simp)⟩) (by assumption) ?_
              simp only [Act.put, List.setIfInBounds_toArray, List.set_cons_zero, List.set_cons_succ]
              refine take_oneH 71 (i := 10) (v := .pointer (some ⟨q, 0, none⟩)) rfl rfl (by kernel_rfl) (by kernel_rfl) (by kernel_rfl) (fun _ _ _ h => h) (Or.inl ⟨by kernel_rfl, fun w hSw => by (go_simp)⟩) (by assumption) ?_
              simp only [Act.put, List.setIfInBounds_toArray, List.set_cons_zero, List.set_cons_succ]
              refine take_oneH 75 (i := 14) (v := .int .i64 j) rfl rfl (by kernel_rfl) (by kernel_rfl) (by kernel_rfl) (fun _ _ _ h => h) (Or.inl ⟨by kernel_rfl, fun w hSw => by (go_simp)⟩) (by assumption) ?_
              simp only [Act.put, List.setIfInBounds_toArray, List.set_cons_zero, List.set_cons_succ]
              refine take_oneH 77 (i := 16) (v := .string X) rfl rfl (by kernel_rfl) (by kernel_rfl) (by kernel_rfl) (fun _ _ _ h => h) (Or.inl ⟨by kernel_rfl, fun w hSw => by (go_simp)⟩) (by assumption) ?_
              simp only [Act.put, List.setIfInBounds_toArray, List.set_cons_zero, List.set_cons_succ]
              refine take_oneH 78 (i := 17) (v := .string X) rfl rfl (by kernel_rfl) (by kernel_rfl) (by kernel_rfl) (fun _ _ _ h => h) (Or.inl ⟨by kernel_rfl, fun w hSw => by (go_simp)⟩) (by assumption) ?_
              simp only [Act.put, List.setIfInBounds_toArray, List.set_cons_zero, List.set_cons_succ]
              refine take_oneH 79 (i := 18) (v := .int .i64 X.size) rfl rfl (by kernel_rfl) (by kernel_rfl) (by kernel_rfl) (fun _ _ _ h => h) (Or.inl ⟨by kernel_rfl, fun w hSw => by (go_simp)⟩) (by assumption) ?_
              simp only [Act.put, List.setIfInBounds_toArray, List.set_cons_zero, List.set_cons_succ]
              refine take_oneH 80 (i := 19) (v := .int .i64 z) rfl rfl (by kernel_rfl) (by kernel_rfl) (by kernel_rfl) (fun _ _ _ h => h) (Or.inl ⟨by kernel_rfl, fun w hSw => by (go_simp)⟩) (by assumption) ?_
              simp only [Act.put, List.setIfInBounds_toArray, List.set_cons_zero, List.set_cons_succ]
              refine wpAnyH_ready (rs := [11, 20]) (by kernel_rfl) (by simp) ?_
              refine AllReadyH.cons rfl (fun K hK => ?_) (AllReadyH.cons rfl (fun K hK => ?_) (AllReadyH.nil))
              · go_simp
                go_at_call 59
                refine CHa.mono ?_
                rintro e w' ⟨rfl, rfl⟩
                go_wp2_with fail
                refine hK.out _ _ ⟨c0, c1⟩ (fun hHeld => ?_)
                clear hK K
                try simp only [Act.put, List.setIfInBounds_toArray, List.set_cons_zero, List.set_cons_succ]
                refine take_oneH 73 (i := 12) (v := .int .i64 F) rfl rfl (by kernel_rfl) (by kernel_rfl) (by kernel_rfl) (fun _ _ _ h => h) (Or.inl ⟨by kernel_rfl, fun w hSw => by (go_simp)⟩) (by assumption) ?_
                simp only [Act.put, List.setIfInBounds_toArray, List.set_cons_zero, List.set_cons_succ]
                refine take_oneH 74 (i := 13) (v := .int .i64 (1 + (F : Int))) rfl rfl (by kernel_rfl) (by kernel_rfl) (by kernel_rfl) (fun _ _ _ h => h) (Or.inl ⟨by kernel_rfl, fun w hSw => by (go_simp)⟩) (by assumption) ?_
                simp only [Act.put, List.setIfInBounds_toArray, List.set_cons_zero, List.set_cons_succ]
                refine take_oneH 76 (i := 15) (v := .int .i64 n0) rfl rfl (by kernel_rfl) (by kernel_rfl) (by kernel_rfl) (fun _ _ _ h => h) (Or.inl ⟨by kernel_rfl, fun w hSw => by (go_simp)⟩) (by assumption) ?_
                simp only [Act.put, List.setIfInBounds_toArray, List.set_cons_zero, List.set_cons_succ]
                refine wpAnyH_ready (rs := [20]) (by kernel_rfl) (by simp) ?_
                refine AllReadyH.cons rfl (fun K hK => ?_) (AllReadyH.nil)
                go_simp
                refine hK.out _ _ ⟨d0, d1⟩ (fun hHeld => ?_)
                clear hK K
                try simp only [Act.put, List.setIfInBounds_toArray, List.set_cons_zero, List.set_cons_succ]
                refine wpAnyH_ready (rs := [21]) (by kernel_rfl) (by simp) ?_
                refine AllReadyH.cons rfl (fun K hK => ?_) (AllReadyH.nil)
                go_simp
                refine hK.out _ _ ⟨d0, d1⟩ (fun hHeld => ?_)
                clear hK K
                try simp only [Act.put, List.setIfInBounds_toArray, List.set_cons_zero, List.set_cons_succ]
                refine take_oneH 83 (i := 22) (v := .string Y) rfl rfl (by kernel_rfl) (by kernel_rfl) (by kernel_rfl) (fun _ _ _ h => h) (Or.inl ⟨by kernel_rfl, fun w hSw => by (go_simp)⟩) (by assumption) ?_
                simp only [Act.put, List.setIfInBounds_toArray, List.set_cons_zero, List.set_cons_succ]
                refine wpAnyH_ready (rs := [23]) (by kernel_rfl) (by simp) ?_
                refine AllReadyH.cons rfl (fun K hK => ?_) (AllReadyH.nil)
                go_simp
                go_at_call 58
                obtain ⟨v1, kp, hr5⟩ := HRb.out.ref
                refine (CW _ _ _ hr5).mono ?_
                rintro e w6 ⟨rfl, h6, s6⟩
                have H6 := Lib.hid (HRb.out.turn h6 s6)
                have e0 := RLO.c0 H6.out.obj
                have e1 := RLO.c1 H6.out.obj
                clear h6 s6 hr5
                go_wp2_with fail
                refine hK.out _ _ ⟨e0, e1⟩ (fun hHeld => ?_)
                clear hK K
                try simp only [Act.put, List.setIfInBounds_toArray, List.set_cons_zero, List.set_cons_succ]
                refine wpAnyH_ready (rs := [24]) (by kernel_rfl) (by simp) ?_
                refine AllReadyH.cons rfl (fun K hK => ?_) (AllReadyH.nil)
                go_simp
                go_at_call 57
                refine (CT _ _ _ _ H6.out).mono ?_
                rintro e w7 ⟨rfl, h7⟩
                have H7 := Lib.hid h7
                have f0 := RLO.c0 H7.out.obj
                have f1 := RLO.c1 H7.out.obj
                clear h7
                go_wp2_with fail
                refine hK.out _ _ ⟨f0, f1⟩ (fun hHeld => ?_)
                clear hK K
                try simp only [Act.put, List.setIfInBounds_toArray, List.set_cons_zero, List.set_cons_succ]
                refine take_oneH 10 (i := 25) (v := .int .i64 E1) rfl rfl (by kernel_rfl) (by kernel_rfl) (by kernel_rfl) (fun _ _ _ h => h) (Or.inl ⟨by kernel_rfl, fun w hSw => by (go_simp)⟩) (by assumption) ?_
                simp only [Act.put, List.setIfInBounds_toArray, List.set_cons_zero, List.set_cons_succ]
                refine wpAnyH_done (by kernel_rfl) ?_ _
                clear CHa CHb CW CT
                go_wp2
                go_ret
                refine ⟨ub, u, by rw [HE.out, HR1.out]; rfl, ?_, Nat.le_trans hub (Nat.le_trans HB5.out.size H7.out.stir.size)⟩
                rw [HYe.out]
                exact rl_end H5.out HB5.out H7.out rfl
              · go_simp
                refine hK.out _ _ ⟨d0, d1⟩ (fun hHeld => ?_)
                clear hK K
                try simp only [Act.put, List.setIfInBounds_toArray, List.set_cons_zero, List.set_cons_succ]
                refine wpAnyH_ready (rs := [11, 21]) (by kernel_rfl) (by simp) ?_
                refine AllReadyH.cons rfl (fun K hK => ?_) (AllReadyH.cons rfl (fun K hK => ?_) (AllReadyH.nil))
                · go_simp
                  go_at_call 59
                  refine CHb.mono ?_
                  rintro e w' ⟨rfl, rfl⟩
                  go_wp2_with fail
                  refine hK.out _ _ ⟨d0, d1⟩ (fun hHeld => ?_)
                  clear hK K
                  try simp only [Act.put, List.setIfInBounds_toArray, List.set_cons_zero, List.set_cons_succ]
                  refine take_oneH 73 (i := 12) (v := .int .i64 F) rfl rfl (by kernel_rfl) (by kernel_rfl) (by kernel_rfl) (fun _ _ _ h => h) (Or.inl ⟨by kernel_rfl, fun w hSw => by (go_simp)⟩) (by assumption) ?_
                  simp only [Act.put, List.setIfInBounds_toArray, List.set_cons_zero, List.set_cons_succ]
                  refine take_oneH 74 (i := 13) (v := .int .i64 (1 + (F : Int))) rfl rfl (by kernel_rfl) (by kernel_rfl) (by kernel_rfl) (fun _ _ _ h => h) (Or.inl ⟨by kernel_rfl, fun w hSw => by (go_simp)⟩) (by assumption) ?_
                  simp only [Act.put, List.setIfInBounds_toArray, List.set_cons_zero, List.set_cons_succ]
                  refine take_oneH 76 (i := 15) (v := .int .i64 n0) rfl rfl (by kernel_rfl) (by kernel_rfl) (by kernel_rfl) (fun _ _ _ h => h) (Or.inl ⟨by kernel_rfl, fun w hSw => by (go_simp)⟩) (by assumption) ?_
                  simp only [Act.put, List.setIfInBounds_toArray, List.set_cons_zero, List.set_cons_succ]
                  refine wpAnyH_ready (rs := [21]) (by kernel_rfl) (by simp) ?_
                  refine AllReadyH.cons rfl (fun K hK => ?_) (AllReadyH.nil)
                  go_simp
                  refine hK.out _ _ ⟨d0, d1⟩ (fun hHeld => ?_)
                  clear hK K
                  try simp only [Act.put, List.setIfInBounds_toArray, List.set_cons_zero, List.set_cons_succ]
                  refine take_oneH 83 (i := 22) (v := .string Y) rfl rfl (by kernel_rfl) (by kernel_rfl) (by kernel_rfl) (fun _ _ _ h => h) (Or.inl ⟨by kernel_rfl, fun w hSw => by (go_simp)⟩) (by assumption) ?_
                  simp only [Act.put, List.setIfInBounds_toArray, List.set_cons_zero, List.set_cons_succ]
                  refine wpAnyH_ready (rs := [23]) (by kernel_rfl) (by simp) ?_
                  refine AllReadyH.cons rfl (fun K hK => ?_) (AllReadyH.nil)
                  go_simp
                  go_at_call 58
                  obtain ⟨v1, kp, hr5⟩ := HRb.out.ref
                  refine (CW _ _ _ hr5).mono ?_
                  rintro e w6 ⟨rfl, h6, s6⟩
                  have H6 := Lib.hid (HRb.out.turn h6 s6)
                  have e0 := RLO.c0 H6.out.obj
                  have e1 := RLO.c1 H6.out.obj
                  clear h6 s6 hr5
                  go_wp2_with fail
                  refine hK.out _ _ ⟨e0, e1⟩ (fun hHeld => ?_)
                  clear hK K
                  try simp only [Act.put, List.setIfInBounds_toArray, List.set_cons_zero, List.set_cons_succ]
                  refine wpAnyH_ready (rs := [24]) (by kernel_rfl) (by simp) ?_
                  refine AllReadyH.cons rfl (fun K hK => ?_) (AllReadyH.nil)
                  go_simp
                  go_at_call 57
                  refine (CT _ _ _ _ H6.out).mono ?_
                  rintro e w7 ⟨rfl, h7⟩
                  have H7 := Lib.hid h7
                  have f0 := RLO.c0 H7.out.obj
                  have f1 := RLO.c1 H7.out.obj
                  clear h7
                  go_wp2_with fail
                  refine hK.out _ _ ⟨f0, f1⟩ (fun hHeld => ?_)
                  clear hK K
                  try simp only [Act.put, List.setIfInBounds_toArray, List.set_cons_zero, List.set_cons_succ]
                  refine take_oneH 10 (i := 25) (v := .int .i64 E1) rfl rfl (by kernel_rfl) (by kernel_rfl) (by kernel_rfl) (fun _ _ _ h => h) (Or.inl ⟨by kernel_rfl, fun w hSw => by (go_simp)⟩) (by assumption) ?_
                  simp only [Act.put, List.setIfInBounds_toArray, List.set_cons_zero, List.set_cons_succ]
                  refine wpAnyH_done (by kernel_rfl) ?_ _
                  clear CHa CHb CW CT
                  go_wp2
                  go_ret
                  refine ⟨ub, u, by rw [HE.out, HR1.out]; rfl, ?_, Nat.le_trans hub (Nat.le_trans HB5.out.size H7.out.stir.size)⟩
                  rw [HYe.out]
                  exact rl_end H5.out HB5.out H7.out rfl
                · go_simp
                  refine hK.out _ _ ⟨d0, d1⟩ (fun hHeld => ?_)
                  clear hK K
                  try simp only [Act.put, List.setIfInBounds_toArray, List.set_cons_zero, List.set_cons_succ]
                  refine take_oneH 83 (i := 22) (v := .string Y) rfl rfl (by kernel_rfl) (by kernel_rfl) (by kernel_rfl) (fun _ _ _ h => h) (Or.inl ⟨by kernel_rfl, fun w hSw => by (go_simp)⟩) (by assumption) ?_
                  simp only [Act.put, List.setIfInBounds_toArray, List.set_cons_zero, List.set_cons_succ]
                  refine wpAnyH_ready (rs := [11]) (by kernel_rfl) (by simp) ?_
                  refine AllReadyH.cons rfl (fun K hK => ?_) (AllReadyH.nil)
                  go_simp
                  go_at_call 59
                  refine CHb.mono ?_
                  rintro e w' ⟨rfl, rfl⟩
                  go_wp2_with fail
                  refine hK.out _ _ ⟨d0, d1⟩ (fun hHeld => ?_)
                  clear hK K
                  try simp only [Act.put, List.setIfInBounds_toArray, List.set_cons_zero, List.set_cons_succ]
                  refine take_oneH 73 (i := 12) (v := .int .i64 F) rfl rfl (by kernel_rfl) (by kernel_rfl) (by kernel_rfl) (fun _ _ _ h => h) (Or.inl ⟨by kernel_rfl, fun w hSw => by (go_simp)⟩) (by assumption) ?_
                  simp only [Act.put, List.setIfInBounds_toArray, List.set_cons_zero, List.set_cons_succ]
                  refine take_oneH 74 (i := 13) (v := .int .i64 (1 + (F : Int))) rfl rfl (by kernel_rfl) (by kernel_rfl) (by kernel_rfl) (fun _ _ _ h => h) (Or.inl ⟨by kernel_rfl, fun w hSw => by (go_simp)⟩) (by assumption) ?_
                  simp only [Act.put, List.setIfInBounds_toArray, List.set_cons_zero, List.set_cons_succ]
                  refine take_oneH 76 (i := 15) (v := .int .i64 n0) rfl rfl (by kernel_rfl) (by kernel_rfl) (by kernel_rfl) (fun _ _ _ h => h) (Or.inl ⟨by kernel_rfl, fun w hSw => by (go_simp)⟩) (by assumption) ?_
                  simp only [Act.put, List.setIfInBounds_toArray, List.set_cons_zero, List.set_cons_succ]
                  refine wpAnyH_ready (rs := [23]) (by kernel_rfl) (by simp) ?_
                  refine AllReadyH.cons rfl (fun K hK => ?_) (AllReadyH.nil)
                  go_simp
                  go_at_call 58
                  obtain ⟨v1, kp, hr5⟩ := HRb.out.ref
                  refine (CW _ _ _ hr5).mono ?_
                  rintro e w6 ⟨rfl, h6, s6⟩
                  have H6 := Lib.hid (HRb.out.turn h6 s6)
                  have e0 := RLO.c0 H6.out.obj
                  have e1 := RLO.c1 H6.out.obj
                  clear h6 s6 hr5
                  go_wp2_with fail
                  refine hK.out _ _ ⟨e0, e1⟩ (fun hHeld => ?_)
                  clear hK K
                  try simp only [Act.put, List.setIfInBounds_toArray, List.set_cons_zero, List.set_cons_succ]
                  refine wpAnyH_ready (rs := [24]) (by kernel_rfl) (by simp) ?_
                  refine AllReadyH.cons rfl (fun K hK => ?_) (AllReadyH.nil)
                  go_simp
                  go_at_call 57
                  refine (CT _ _ _ _ H6.out).mono ?_
                  rintro e w7 ⟨rfl, h7⟩
                  have H7 := Lib.hid h7
                  have f0 := RLO.c0 H7.out.obj
                  have f1 := RLO.c1 H7.out.obj
                  clear h7
                  go_wp2_with fail
                  refine hK.out _ _ ⟨f0, f1⟩ (fun hHeld => ?_)
                  clear hK K
                  try simp only [Act.put, List.setIfInBounds_toArray, List.set_cons_zero, List.set_cons_succ]
                  refine take_oneH 10 (i := 25) (v := .int .i64 E1) rfl rfl (by kernel_rfl) (by kernel_rfl) (by kernel_rfl) (fun _ _ _ h => h) (Or.inl ⟨by kernel_rfl, fun w hSw => by (go_simp)⟩) (by assumption) ?_
                  simp only [Act.put, List.setIfInBounds_toArray, List.set_cons_zero, List.set_cons_succ]
                  refine wpAnyH_done (by kernel_rfl) ?_ _
                  clear CHa CHb CW CT
                  go_wp2
                  go_ret
                  refine ⟨ub, u, by rw [HE.out, HR1.out]; rfl, ?_, Nat.le_trans hub (Nat.le_trans HB5.out.size H7.out.stir.size)⟩
                  rw [HYe.out]
                  exact rl_end H5.out HB5.out H7.out rfl
          · have hp0 : puts (halfAt s.stay G) all ((all.length + 63) / 64 - n / 64) (n / 64) s = (0, sj) := by
              rw [HHA.out, HLo.out, HP.out, show (all.length + 63) / 64 - j = 0 by omega, puts_zero]
            obtain ⟨v1, kp, hrf⟩ := HRd.out.ref
            have CY := rsync_at hrf HOk.out (by omega)
            have c0 := RLO.c0 HRd.out.obj
            have CT := fun W dead s e (h : RD q r G base u dead s zs v0 v2 w5 W) => rtold_any h e
            have hms := made_sync' sj
            have HOk2 := Lib.hid HOk.out.sync
            have hji : ¬ 64 * (j : Int) < (S.size : Int) := by omega
            have hm2 : IntKind.i64.wrap (64 * (j : Int)) = 64 * (j : Int) := IntWalk.i64_in _ (by omega)
            by_cases hE : sj.syncE = 0
            · have hR2 : R = heads G all.length sj.sync := by rw [← HR.out]; exact keepD_all hp0 hE
              rw [hE] at CY
              have CX := fun W (h : RD q r G base u false sj.sync zs v0 v2 w5 W) => rheads_any h HOk2.out (by omega) (g := G) (used := all.length) (by omega) (by omega)
              have hdd : headsDead G all.length sj.sync false = ((heads G all.length sj.sync).1 == 2) := by unfold headsDead; simp
              simp only [hdd] at CX
              generalize heads G all.length sj.sync = R2 at *
              subst hR2
              obtain ⟨E2, s2⟩ := R
              simp only at CX HE HY
              clear hp0 hrf hdd HP hE HR
              go_wp2_with fail
              refine CY.mono ?_
              rintro e w6 ⟨rfl, h6, s6⟩
              have H6 := Lib.hid (HRd.out.turn h6 s6)
              clear h6 s6 CY
              go_wp2_with fail
              refine (CT _ _ _ _ H6.out).mono ?_
              rintro e w7 ⟨rfl, h7⟩
              rw [show (false || ((0 : Int) == 2)) = false by simp] at h7
              have H7 := Lib.hid h7
              have d1 := RLO.c1 H7.out.obj
              clear h7 CT
              go_wp2_with fail
              refine (CX _ H7.out).mono ?_
              rintro e w8 ⟨rfl, h8⟩
              by_cases hE2 : E2 = 0
              · subst hE2
                rw [show ((0 : Int) == 2) = false by decide] at h8
                have H8 := Lib.hid h8
                have f2 := RLO.fr H8.out.obj 2
                have c2 := RLO.c2 H8.out.obj
                have HYe := Lib.hid (show y = { gen := G, recs := x.recs ++ [rec], dead := false, disk := s2 } by rw [HY.out, if_pos rfl, HD.out])
                have hsz8 := H8.out.stir.size
                have hsz5 := HRow5.out
                clear h8 CX d1 c0 hms
                go_wp2
                go_ret
                refine ⟨_, .slice (some ⟨g4, 0, none⟩) (x.recs.length + 1) cap4, by rw [HE.out]; rfl, by rw [HYe.out]; exact rl_new H5.out HB5.out H8.out HRow5.out HFar.out, ?_⟩
                have := (Stir.refl (· = q) w8).set (.inl rfl) (b := q) (i := 2) (.slice (some ⟨g4, 0, none⟩) (x.recs.length + 1) cap4)
                have := this.size
                obtain ⟨C, hC⟩ := owns_block HRow5.out (k := g4) rfl
                have h9 := lt_of_heap hC
                omega
              · have hEb : (E2 == 0) = false := beq_eq_false_iff_ne.2 hE2
                have HYe := Lib.hid (show y = { gen := G, recs := x.recs, dead := E2 == 2, disk := s2 } by rw [HY.out, if_neg hE2])
                have H8 := Lib.hid h8
                clear h8 CX d1 c0 hms hE2
                go_wp2
                go_ret
                refine ⟨ub, u, by rw [HE.out]; rfl, ?_, Nat.le_trans hub (Nat.le_trans HB5.out.size H8.out.stir.size)⟩
                rw [HYe.out]
                exact rl_end H5.out HB5.out H8.out rfl
            · have hR2 : R = (sj.syncE, sj.sync) := by rw [← HR.out]; exact keepD_sync hp0 hE
              have hEb : (sj.syncE == 0) = false := beq_eq_false_iff_ne.2 hE
              have HR1 := Lib.hid (congrArg Prod.fst hR2)
              have HYe := Lib.hid (show y = { gen := G, recs := x.recs, dead := sj.syncE == 2, disk := sj.sync } by rw [HY.out, hR2, if_neg hE])
              generalize sj.syncE = E1 at *
              clear hp0 hrf hR2 hE HP HR
              go_wp2_with fail
              refine CY.mono ?_
              rintro e w6 ⟨rfl, h6, s6⟩
              have H6 := Lib.hid (HRd.out.turn h6 s6)
              clear h6 s6 CY
              go_wp2_with fail
              refine (CT _ _ _ _ H6.out).mono ?_
              rintro e w7 ⟨rfl, h7⟩
              have H7 := Lib.hid h7
              clear h7 CT hms c0
              go_wp2
              go_ret
              refine ⟨ub, u, by rw [HE.out, HR1.out]; rfl, ?_, Nat.le_trans hub (Nat.le_trans HB5.out.size H7.out.stir.size)⟩
              rw [HYe.out]
              exact rl_end H5.out HB5.out H7.out rfl
end
end Go.Proofs.YteboacjniokfpaaGreatDoor

