/-
  A law's volume: what it calls; laid.
-/
import Derived.Test.YtknfakaklmpboaaGreatDoorBlkS
import Derived.Test.YtknfakaklmpboaaGreatDoorBlkI
namespace Go.Proofs.YtknfakaklmpboaaGreatDoor
open Go.RowKit Go Go.Maps SM

/-- the blocks of what is kept, by their kinds -/
theorem cach_kinds {base c room : Nat} {F : Nat → Prop} {L : List (Int × ByteArray)} {w : World} (h : CI.Cach base F c room L w) {k : Nat} (hk : F k) :
    (∃ C f, w.heap[k]? = some (.cells C 107 f)) ∨ (∃ es cl, w.heap[k]? = some (.map es cl)) ∨ (∃ C f, w.heap[k]? = some (.cells C 109 f)) := by
  obtain ⟨m', r, T, nd, nx, pv, D, a1, a2, a3, a4, a5⟩ := h
  rcases (a3 k).1 hk with rfl | rfl | hr
  · exact .inl ⟨_, _, a1.obj⟩
  · obtain ⟨es, cl, e, _⟩ := a1.map
    exact .inr (.inl ⟨es, cl, e⟩)
  · exact .inr (.inr ⟨_, _, a1.ring.nodes k hr⟩)
/-- blocks of other kinds stay -/
def VKeep (w w' : World) : Prop := ∃ F : Nat → Prop, Stir F w w' ∧ ∀ i C e f, F i → w.heap[i]? = some (.cells C e f) → (e = 82 ∨ e = 5 ∨ e = 68 ∨ e = 107 ∨ e = 109)
section
variable {w w' : World}
theorem VKeep.of_below (h : Below w.heap.size w w') : VKeep w w' := ⟨fun _ => False, Stir.of_below h, fun _ _ _ _ h => h.elim⟩
theorem VKeep.keep (k : VKeep w w') {i : Nat} {C : Array Value} {e : TypeId} {f : Nat × Nat} (h : w.heap[i]? = some (.cells C e f)) (h1 : e ≠ 82) (h2 : e ≠ 5) (h3 : e ≠ 68) (h4 : e ≠ 107) (h5 : e ≠ 109) : w'.heap[i]? = some (.cells C e f) := by
  obtain ⟨F, hs, hF⟩ := k
  exact hs.keep h (fun hf => by
    rcases hF i _ _ _ hf h with e | e | e | e | e
    · exact h1 e
    · exact h2 e
    · exact h3 e
    · exact h4 e
    · exact h5 e)
theorem vfoot_kinds {base l b g m c : Nat} {F : Nat → Prop} {x : VS} (h : VolAt base l b g m c F x w) {i : Nat} {C : Array Value} {e : TypeId} {f : Nat × Nat} (hf : VFoot l b g m F i) (hC : w.heap[i]? = some (.cells C e f)) : e = 82 ∨ e = 5 ∨ e = 68 ∨ e = 107 ∨ e = 109 := by
  rcases hf with rfl | hf | hf
  · rw [h.obj] at hC
    simp [VObj] at hC
    exact .inr (.inr (.inl hC.2.1.symm))
  · by_cases h1 : e = 82
    · exact .inl h1
    · by_cases h2 : e = 5
      · exact .inr (.inl h2)
      · exact absurd hf (h.disk.not_cells hC h1 h2)
  · rcases cach_kinds h.kept hf with ⟨C', f', e'⟩ | ⟨es, cl, e'⟩ | ⟨C', f', e'⟩
    · rw [hC] at e'
      simp at e'
      exact .inr (.inr (.inr (.inl e'.2.1)))
    · rw [hC] at e'; cases e'
    · rw [hC] at e'
      simp at e'
      exact .inr (.inr (.inr (.inr e'.2.1)))
theorem VolAt.vkeep {base l b g m c : Nat} {F : Nat → Prop} {x : VS} (h : VolAt base l b g m c F x w) (k : Stir (VFoot l b g m F) w w') : VKeep w w' := ⟨_, k, fun _ _ _ _ hf hC => vfoot_kinds h hf hC⟩
theorem DiskAt.vkeep {b g m : Nat} {s : DS} (h : DiskAt b g m s w) (k : Stir (Foot b g m) w w') : VKeep w w' :=
  ⟨_, k, fun i C e f hf hC => by
    by_cases h1 : e = 82
    · exact .inl h1
    · by_cases h2 : e = 5
      · exact .inr (.inl h2)
      · exact absurd hf (h.not_cells hC h1 h2)⟩
end
theorem made_vwrite (x : VS) (v : Int) (p : ByteArray) : (x.write v p).2.disk.made ≤ x.disk.made + 5 := by
  have := (len_storeV x.disk v.toNat p).2
  unfold VS.write
  split
  · exact Nat.le_add_right _ _
  · split
    · exact Nat.le_add_right _ _
    · split
      · exact Nat.le_add_right _ _
      · split
        · show (storeV x.disk v.toNat p).2.made ≤ _; omega
        · show (storeV x.disk v.toNat p).2.made ≤ _; omega
theorem made_vcommit (x : VS) (t : ByteArray) : (x.commit t).2.disk.made ≤ x.disk.made + 5 := by
  have h1 := made_sync' x.disk
  have h2 := (len_rootPut t (x.num + 1) x.disk.sync).2
  unfold VS.commit
  split
  · exact Nat.le_add_right _ _
  · split
    · exact Nat.le_add_right _ _
    · split
      · exact Nat.le_add_right _ _
      · split
        · show x.disk.sync.made ≤ _; omega
        · split
          · show (rootPut t (x.num + 1) x.disk.sync).2.made ≤ _; omega
          · show (rootPut t (x.num + 1) x.disk.sync).2.made ≤ _; omega
theorem made_vread (x : VS) (v : Int) : (x.read v).2.2.disk = x.disk := by
  unfold VS.read
  split
  · rfl
  · split
    · rfl
    · split
      · rfl
      · split
        · rfl
        · split <;> rfl

/-- a volume that a law has made -/
structure VW (w0 : World) (l b g m c : Nat) (x : VS) (w : World) : Prop where
  is : ∃ F, VolAt w0.heap.size l b g m c F x w
  low : w0.heap.size ≤ l
  over : Over w0.heap.size b g m
  below : Below w0.heap.size w0 w
section
variable {w0 w w' : World} {l b g m c : Nat} {x : VS}
theorem VW.later (h : VW w0 l b g m c x w) (hB : Below w.heap.size w w') : VW w0 l b g m c x w' := by
  obtain ⟨F, hv⟩ := h.is
  exact ⟨⟨F, hv.below hB⟩, h.low, h.over, h.below.trans (hB.mono h.below.size)⟩
theorem VW.step {F : Nat → Prop} {x' : VS} (h : VW w0 l b g m c x w) (hv : VolAt w0.heap.size l b g m c F x w) (hs : VSt w0.heap.size l b g m c F w x' w') : VW w0 l b g m c x' w' ∧ VKeep w w' := by
  obtain ⟨F', a, s, _⟩ := hs
  exact ⟨⟨⟨F', a⟩, h.low, h.over, h.below.trans (s.below (fun k hk => by
    rcases hk with rfl | hk | hk
    · exact h.low
    · exact h.over.foot k hk
    · exact hv.kept.low hk) h.below.size)⟩, hv.vkeep s⟩
theorem VW.disk (h : VW w0 l b g m c x w) : DiskAt b g m x.disk w := by
  obtain ⟨F, hv⟩ := h.is
  exact hv.disk
theorem VW.turn {s' : DS} (h : VW w0 l b g m c x w) (hd : DiskAt b g m s' w') (hs : Stir (Foot b g m) w w') (hl : s'.stay.length = x.disk.stay.length) : VW w0 l b g m c { x with disk := s' } w' ∧ VKeep w w' := by
  obtain ⟨F, hv⟩ := h.is
  exact ⟨⟨⟨F, hv.turn hd hs hl⟩, h.low, h.over, step_below h.below hs h.over h.below.size⟩, hv.disk.vkeep hs⟩
theorem VW.read (h : VW w0 l b g m c x w) (v : Int) (hv : I64 v) :
    Calls Tryz.prog 5 #[.pointer (some ⟨l, 0, none⟩), .int .i64 v] w fun e w' => e = .returned (.tuple #[.string (x.read v).2.1, .int .i64 (x.read v).1]) ∧ VW w0 l b g m c (x.read v).2.2 w' ∧ VKeep w w' := by
  obtain ⟨F, hF⟩ := h.is
  exact (vread_any hF v hv).mono fun _ _ hh => ⟨hh.1, h.step hF hh.2⟩
theorem VW.write (h : VW w0 l b g m c x w) (hm : x.disk.made < 900000000) (v : Int) (hv : I64 v) (p : ByteArray) (hp : p.size ≤ 140737488355328) :
    Calls Tryz.prog 7 #[.pointer (some ⟨l, 0, none⟩), .int .i64 v, .string p] w fun e w' => e = .returned (.int .i64 (x.write v p).1) ∧ VW w0 l b g m c (x.write v p).2 w' ∧ VKeep w w' := by
  obtain ⟨F, hF⟩ := h.is
  exact (vwrite_any hF hm v hv p hp).mono fun _ _ hh => ⟨hh.1, h.step hF hh.2⟩
theorem VW.commit (h : VW w0 l b g m c x w) (hm : x.disk.made < 900000000) (t : ByteArray) (ht : t.size ≤ 140737488355328) :
    Calls Tryz.prog 9 #[.pointer (some ⟨l, 0, none⟩), .string t] w fun e w' => e = .returned (.int .i64 (x.commit t).1) ∧ VW w0 l b g m c (x.commit t).2 w' ∧ VKeep w w' := by
  obtain ⟨F, hF⟩ := h.is
  exact (vcommit_any hF hm t ht).mono fun _ _ hh => ⟨hh.1, h.step hF ⟨F, hh.2.1, hh.2.2, fun _ h => .inl h⟩⟩
theorem VW.root (h : VW w0 l b g m c x w) :
    Calls Tryz.prog 24 #[.pointer (some ⟨l, 0, none⟩)] w fun e w' => e = .returned (.tuple #[.string x.text, .int .i64 x.num]) ∧ VW w0 l b g m c x w' ∧ Below w.heap.size w w' := by
  obtain ⟨F, hF⟩ := h.is
  exact (vroot_any hF).mono fun _ _ hh => ⟨hh.1, h.later hh.2.2, hh.2.2⟩
theorem VW.blocks (h : VW w0 l b g m c x w) :
    Calls Tryz.prog 71 #[.pointer (some ⟨l, 0, none⟩)] w fun e w' => e = .returned (.int .i64 (blkN x.disk)) ∧ w = w' := by
  obtain ⟨F, hF⟩ := h.is
  exact vblocks_any hF
theorem VW.open_ (h : VW w0 l b g m c x w) :
    Calls Tryz.prog 19 #[.pointer (some ⟨b, 0, none⟩)] w fun e w' => ∃ p, e = .returned (.tuple #[.pointer p, .int .i64 (vopenE x.disk)]) ∧ ((vopenE x.disk = 0 ∧ ∃ t k, p = some ⟨t, 0, none⟩ ∧ VW w0 t b g m k (vopenX x.disk) w') ∨ (vopenE x.disk ≠ 0 ∧ p = none)) ∧ VW w0 l b g m c x w' ∧ Below w.heap.size w w' := by
  refine (vopen_any h.disk).mono fun _ _ hh => ?_
  obtain ⟨p, h1, h2, h3⟩ := hh
  refine ⟨p, h1, ?_, h.later h3, h3⟩
  rcases h2 with ⟨e, t, k, F, rfl, ht, hv⟩ | ⟨e, rfl⟩
  · exact .inl ⟨e, t, k, rfl, ⟨F, hv.lower h.below.size⟩, Nat.le_trans h.below.size ht, h.over, h.below.trans (h3.mono h.below.size)⟩
  · exact .inr ⟨e, rfl⟩
end

/-- what a law begins with: the two disks, the two volumes -/
structure VLaid (w : World) (b g m r : Nat) (n : Nat) (t : ByteArray) (p p2 : Option Addr) (w' : World) : Prop where
  one : 1 ≤ n
  le : n ≤ 400
  vol : (vformE (fresh (blank n)) t = 0 ∧ (∃ l c, p = some ⟨l, 0, none⟩ ∧ VW w l b g m c (vformX (fresh (blank n)) t) w') ∧ ∃ q c, p2 = some ⟨q, 0, none⟩ ∧ w.heap.size ≤ q ∧ w.heap.size ≤ c ∧ w'.heap[q]? = some (RVO r t 1 c false) ∧ w'.heap[c]? = some (RKO (.slice none 0 0))) ∨ (vformE (fresh (blank n)) t ≠ 0 ∧ p = none ∧ p2 = none)
  disk : DiskAt b g m (vformD (fresh (blank n)) t) w'
  ref : ∃ zs v0 v1 v2 kp, zs.length ≤ 0 ∧ RefAt r w.heap.size (vformD (fresh (blank n)) t) zs v0 v1 v2 kp w'
  over : Over w.heap.size b g m
  low : w.heap.size ≤ r
  below : Below w.heap.size w w'
set_option maxRecDepth 100000 in
set_option maxHeartbeats 4000000 in
theorem laid_vol (z : Int) (t : ByteArray) (_hz : I64 z) (ht : t.size ≤ 140737488355328) (w : World) :
    Calls Tryz.prog 4 #[.int .i64 z, .string t] w fun e w' => ∃ b g m r n p p2, e = .returned (.tuple #[.pointer (some ⟨b, 0, none⟩), .pointer p, .pointer (some ⟨r, 0, none⟩), .pointer p2, .bool true]) ∧ VLaid w b g m r n t p p2 w' ∧ (n : Int) = max 1 (min z 400) := by
  obtain ⟨P, Q, ⟨a1, a2, a3⟩, ⟨b1, b2, b3⟩, h5, h6⟩ := clamp z 1 400 (by omega)
  have hcl : Q = max 1 (min z 400) := by omega
  obtain ⟨n, rfl⟩ : ∃ n : Nat, Q = (n : Int) := ⟨Q.toNat, by omega⟩
  have hn1 : 1 ≤ n := by omega
  have hn2 : n ≤ 400 := by omega
  have C1 := fun w => new_yes n hn1 (by omega) w
  have C2 := fun w => rnew_yes n hn1 (by omega) w
  have C3 := fun b g m w (h : DiskAt b g m (fresh (blank n)) w) => vformat_any h (by show 0 < 900000000; omega) t ht
  have hok := blank_ok hn1 (by omega)
  have C4 := fun r zs base v0 v1 v2 kp w (h : RefAt r base (fresh (blank n)) zs v0 v1 v2 kp w) => rvformat_any h hok (by show 0 < 900000000; omega) t ht
  obtain ⟨E, hE⟩ : ∃ E, vformE (fresh (blank n)) t = E := ⟨_, rfl⟩
  obtain ⟨D, hD⟩ : ∃ D, vformD (fresh (blank n)) t = D := ⟨_, rfl⟩
  obtain ⟨X, hX⟩ : ∃ X, vformX (fresh (blank n)) t = X := ⟨_, rfl⟩
  rw [hE, hD, hX] at C3
  rw [hE, hD] at C4
  have HE := Lib.hid hE
  have HD := Lib.hid hD
  have HX := Lib.hid hX
  have HN := Lib.hid (And.intro hn1 hn2)
  have HCl := Lib.hid hcl
  clear hE hD hX hok hcl
  have RN := fun (w w' : World) (r : Nat) (h : RNew w r n w') => ref_new h
  generalize hs0 : fresh (blank n) = s0 at C1 C3 C4 RN
  have HS0 := Lib.hid hs0
  clear hs0
  go_enter Tryz.func4, Tryz.ntmps4
  go_wp2_with fail
  refine (C1 _).mono ?_
  rintro e w1 ⟨b, g, m, rfl, h1, ho, hB1⟩
  have H1 := Lib.hid h1
  have HO := Lib.hid (show Over w.heap.size b g m from ho)
  have HB1 := Lib.hid hB1
  clear h1 ho hB1 C1
  go_wp2_with fail
  refine (C2 _).mono ?_
  rintro e w2 ⟨r, rfl, hr⟩
  obtain ⟨v0, hr2, hlr, hB2⟩ := RN _ _ _ hr
  have HR2 := Lib.hid hr2
  have H2 := Lib.hid (H1.out.below hB2)
  have HB2 := Lib.hid (HB1.out.trans (hB2.mono HB1.out.size))
  have HLr := Lib.hid (Nat.le_trans HB1.out.size hlr)
  have HZ1 := Lib.hid HB1.out.size
  clear hr hr2 hlr hB2 C2
  go_wp2_with fail
  refine (C3 _ _ _ _ H2.out).mono ?_
  rintro e w3 ⟨p, rfl, hl3, h3, s3⟩
  have HL3 := Lib.hid hl3
  have H3 := Lib.hid h3
  have HR3 := Lib.hid (HR2.out.disk H2.out s3)
  have HB3 := Lib.hid (step_below HB2.out s3 HO.out HB2.out.size)
  clear hl3 h3 s3 C3
  go_wp2_with fail
  refine (C4 _ _ _ _ _ _ _ _ HR3.out).mono ?_
  rintro e w4 ⟨p2, rfl, hl4, hr4, s4⟩
  have HL4 := Lib.hid hl4
  have HR4 := Lib.hid hr4
  have S4 := Lib.hid s4
  have H4 := Lib.hid (H3.out.stay s4 (fun i hi e => by
    rcases e with rfl | e
    · exact H3.out.not_cells HR3.out.obj (by decide) (by decide) hi
    · obtain ⟨C, hC⟩ := owns_block HR3.out.st e
      exact H3.out.not_cells hC (by decide) (by decide) hi))
  have HB4 := Lib.hid (HB3.out.trans (s4.below (B := w.heap.size) (fun k e => by
    rcases e with rfl | e
    · exact HLr.out
    · exact Nat.le_trans HZ1.out (HR3.out.st.lt k e).1) HB3.out.size))
  clear hl4 hr4 s4 C4
  have HFin := Lib.hid (show VLaid w b g m r n t p p2 w4 from by
    refine ⟨HN.out.1, HN.out.2, ?_, by rw [HD.out]; exact H4.out, ?_, HO.out, HLr.out, HB4.out⟩
    · rw [HE.out, HX.out]
      rcases HL3.out with ⟨e, l, c, F, e1, e2, e3⟩ | ⟨e, e1⟩
      · left
        rcases HL4.out with ⟨_, q, k, f1, f2⟩ | ⟨f, _⟩
        · refine ⟨e, ⟨l, c, e1, ⟨F, (e3.stay S4.out (fun i hi hf => ?_)).lower HB2.out.size⟩, Nat.le_trans HB2.out.size e2, HO.out, HB4.out⟩, q, k, f1, Nat.le_trans HB3.out.size f2.low.1, Nat.le_trans HB3.out.size f2.low.2, f2.obj, f2.kept⟩
          have hcell : ∃ C e' f', w3.heap[i]? = some (.cells C e' f') ∧ (e' = 52 ∨ e' = 9) := by
            rcases hf with rfl | hf
            · exact ⟨_, _, _, HR3.out.obj, .inl rfl⟩
            · obtain ⟨C, hC⟩ := owns_block HR3.out.st hf
              exact ⟨_, _, _, hC, .inr rfl⟩
          obtain ⟨C, e', f', hC, he'⟩ := hcell
          rcases vfoot_kinds e3 hi hC with k | k | k | k | k <;> rcases he' with j | j <;> rw [k] at j <;> exact absurd j (by decide)
        · exact absurd e f
      · right
        rcases HL4.out with ⟨f, _⟩ | ⟨_, f1⟩
        · exact absurd f e
        · exact ⟨e, e1, f1⟩
    · rw [HD.out]
      obtain ⟨v1', kp', h⟩ := HR4.out
      exact ⟨_, _, _, _, _, Nat.le_refl _, h.lower HZ1.out⟩)
  have hpp : (p = none ∧ p2 = none) ∨ (∃ l q, p = some ⟨l, 0, none⟩ ∧ p2 = some ⟨q, 0, none⟩) := by
    rcases HFin.out.vol with ⟨_, ⟨l, c, e1, _⟩, q, k, e2, _⟩ | ⟨_, e1, e2⟩
    · exact .inr ⟨l, q, e1, e2⟩
    · exact .inl ⟨e1, e2⟩
  rcases hpp with ⟨rfl, rfl⟩ | ⟨l, q, rfl, rfl⟩
  · go_wp2
    (try simp only [Exit.inBlock, Exit.then])
    refine bodyPost_ret (results_tmp5 rfl _ _ _) rfl ?_
    exact ⟨b, g, m, r, n, _, _, rfl, HFin.out, HCl.out⟩
  · go_wp2
    (try simp only [Exit.inBlock, Exit.then])
    refine bodyPost_ret (results_tmp5 rfl _ _ _) rfl ?_
    exact ⟨b, g, m, r, n, _, _, rfl, HFin.out, HCl.out⟩
end Go.Proofs.YtknfakaklmpboaaGreatDoor

