/-
  BlkP / BlkPc.
-/
import Derived.Test.YtknfakaklmpboaaGreatDoorBX
import Derived.Test.YtknfakaklmpboaaGreatDoorBlkK
import Derived.Test.YtknfakaklmpboaaGreatDoorBY
namespace Go.Proofs.YtknfakaklmpboaaGreatDoor
open Go.RowKit Go Go.Maps SM

def Kind8 (e : TypeId) : Prop := (e ≠ 82 ∧ e ≠ 5 ∧ e ≠ 68 ∧ e ≠ 107 ∧ e ≠ 109) ∧ ¬ K8 e
theorem VKeep.owns {w w' : World} (k : VKeep w w') {base : Nat} {e : TypeId} {size : Nat} {v : Value} {n : Nat} {xs : List Value} (h : w.ownsRow base e size v n xs) (h1 : e ≠ 82) (h2 : e ≠ 5) (h3 : e ≠ 68) (h4 : e ≠ 107) (h5 : e ≠ 109) : w'.ownsRow base e size v n xs :=
  owns_same8 h (fun i hi => by
    obtain ⟨C, hC⟩ := owns_block h hi
    rw [hC]
    exact k.keep hC h1 h2 h3 h4 h5)
theorem VKeep.size {w w' : World} (k : VKeep w w') : w.heap.size ≤ w'.heap.size := by obtain ⟨F, hs, _⟩ := k; exact hs.size
theorem VKeep.trans {w w' w'' : World} (h : VKeep w w') (k : VKeep w' w'') : VKeep w w'' := by
  obtain ⟨F, hs, hF⟩ := h
  obtain ⟨G, ks, kG⟩ := k
  refine ⟨fun i => F i ∨ (G i ∧ i < w.heap.size), (hs.weaken (fun _ e => .inl e)).trans ks (fun i e => ?_), ?_⟩
  · by_cases hi : i < w.heap.size
    · exact .inl (.inr ⟨e, hi⟩)
    · exact .inr (by omega)
  · rintro i C e f (hi | ⟨hi, hl⟩) hC
    · exact hF i C e f hi hC
    · by_cases hf : F i
      · exact hF i C e f hf hC
      · exact kG i C e f hi (hs.keep hC hf)
/-- what is so of every volume in memory -/
theorem VW.fine {w0 w : World} {l b g m c : Nat} {x : VS} (h : VW w0 l b g m c x w) : FineV x := by
  obtain ⟨F, hv⟩ := h.is
  have hk := hv.keys
  exact ⟨hv.disk.1, hv.big, hv.nle, hk.2.1, hk.1⟩
section
variable {q r B c : Nat} {zs : List Int} {v0 v2 : Value} {x : VS} {w w' : World}
theorem RVC.vkept (h : RVC q r B zs v0 v2 x c w) (k : VKeep w w') : RVC q r B zs v0 v2 x c w' := by
  obtain ⟨v1, kp, hr⟩ := h.ref
  obtain ⟨G, v, hc⟩ := h.kept
  exact ⟨k.keep h.obj (by decide) (by decide) (by decide) (by decide) (by decide),
    ⟨v1, kp, ⟨k.keep hr.obj (by decide) (by decide) (by decide) (by decide) (by decide), k.owns hr.st (by decide) (by decide) (by decide) (by decide) (by decide), k.owns hr.lo (by decide) (by decide) (by decide) (by decide) (by decide), k.owns hr.ba (by decide) (by decide) (by decide) (by decide) (by decide), hr.bads, hr.few, hr.keep, hr.kple, hr.low⟩⟩,
    ⟨G, v, ⟨k.keep hc.obj (by decide) (by decide) (by decide) (by decide) (by decide), k.owns hc.row (by decide) (by decide) (by decide) (by decide) (by decide), hc.own, hc.apart, hc.low⟩⟩, h.low⟩
/-- the reference's disk is turned -/
theorem RVC.dturn {s' : DS} {zs' : List Int} {v2' : Value} (h : RVC q r B zs v0 v2 x c w) (hd : ∃ v1 kp, RefAt r B s' zs' v0 v1 v2' kp w') (hs : Stir (RF r v0) w w') : RVC q r B zs' v0 v2' { x with disk := s' } c w' ∧ RS8 B w w' := by
  obtain ⟨v1, kp, hr⟩ := h.ref
  obtain ⟨G, v, hc⟩ := h.kept
  have hm : ∀ i, RF r v0 i → ∃ C t f, w.heap[i]? = some (.cells C t f) ∧ (t = 52 ∨ t = 9 ∨ t = 55) ∧ B ≤ i := fun i hi => h.mine i (.inr hi)
  refine ⟨⟨hs.keep h.obj (hr.not_vol h.obj), hd, ⟨G, v, hc.stay hs (fun b hb hf => ?_)⟩, h.low⟩, _, hs, fun i hi => ?_⟩
  · obtain ⟨C, t, f, e, ht, _⟩ := hm b hf
    obtain ⟨C', t', f', e', ht', _⟩ := kept_kinds hc b hb
    exact apart_kinds e e' ht ht'
  · obtain ⟨C, t, f, e, ht, hb⟩ := hm i hi
    exact ⟨C, t, f, e, .inl ht, hb⟩
theorem RVC.cells (h : RVC q r B zs v0 v2 x c w) : w.cell? ⟨r, 3, none⟩ = some (.int .i64 x.disk.made) ∧ w.cell? ⟨q, 1, none⟩ = some (.string x.text) ∧ w.cell? ⟨q, 2, none⟩ = some (.int .i64 x.num) ∧ w.cell? ⟨q, 4, none⟩ = some (.bool x.dead) := by
  obtain ⟨v1, kp, hr⟩ := h.ref
  exact ⟨RO.c3 hr.obj, RVO.c1 h.obj, RVO.c2 h.obj, RVO.c4 h.obj⟩
end
/-- the reference's volume -/
def RB8 (q r B k : Nat) (y : VS) (w : World) : Prop := ∃ zs v0 v2 c, zs.length ≤ k ∧ RVC q r B zs v0 v2 y c w
section
variable {q r B k : Nat} {y y' : VS} {w w' : World}
theorem RB8.below (h : RB8 q r B k y w) (hB : Below w.heap.size w w') : RB8 q r B k y w' := by
  obtain ⟨zs, v0, v2, c, h1, h2⟩ := h
  exact ⟨zs, v0, v2, c, h1, h2.below hB⟩
theorem RB8.kept (h : RB8 q r B k y w) (hk : VKeep w w') : RB8 q r B k y w' := by
  obtain ⟨zs, v0, v2, c, h1, h2⟩ := h
  exact ⟨zs, v0, v2, c, h1, h2.vkept hk⟩
theorem RB8.le {k' : Nat} (h : RB8 q r B k y w) (hk : k ≤ k') : RB8 q r B k' y w := by
  obtain ⟨zs, v0, v2, c, h1, h2⟩ := h
  exact ⟨zs, v0, v2, c, Nat.le_trans h1 hk, h2⟩
end
section
variable {w0 w w' : World} {l b g m c : Nat} {x : VS}
theorem VW.s8 (h : VW w0 l b g m c x w) (k : RS8 w0.heap.size w w') : VW w0 l b g m c x w' := by
  have hk := k
  obtain ⟨F, hs, hF⟩ := k
  obtain ⟨F', hv⟩ := h.is
  refine ⟨⟨F', hv.stay hs (fun i hi hf => ?_)⟩, h.low, h.over, hk.below h.below h.below.size⟩
  obtain ⟨C, t, f, e, ht, _⟩ := hF i hf
  rcases vfoot_kinds hv hi e with rfl | rfl | rfl | rfl | rfl <;> rcases ht with (e | e | e) | e | e <;> exact absurd e (by decide)
theorem vdead_any {base : Nat} {F : Nat → Prop} (h : VolAt base l b g m c F x w) :
    Calls Tryz.prog 28 #[.pointer (some ⟨l, 0, none⟩)] w fun e w' => e = .returned (.bool x.dead) ∧ w = w' := by
  have c4 := VObj.c4 h.obj
  clear h
  go_enter Tryz.func28, Tryz.ntmps28
  go_wp2
  go_ret
  exact ⟨rfl, rfl⟩
theorem VW.vdead (h : VW w0 l b g m c x w) :
    Calls Tryz.prog 28 #[.pointer (some ⟨l, 0, none⟩)] w fun e w' => e = .returned (.bool x.dead) ∧ w = w' := by
  obtain ⟨F, hv⟩ := h.is
  exact vdead_any hv
theorem VW.bad (h : VW w0 l b g m c x w) (n : Int) (hn : I64 n) (f : Bool) :
    Calls Tryz.prog 13 #[.pointer (some ⟨b, 0, none⟩), .int .i64 n, .bool f] w fun e w' => e = .returned (.int .i64 (x.disk.may n)) ∧ VW w0 l b g m c { x with disk := x.disk.setBad n f } w' ∧ VKeep w w' :=
  (bad_any h.disk n hn f).mono fun _ _ hh => ⟨hh.1, h.turn hh.2.1 hh.2.2 (by unfold DS.setBad; split <;> rfl)⟩
end

/-- the two volumes, and the call at hand -/
structure BB (w0 : World) (l b g m c q r o k : Nat) (ob : Option (Array Value × TypeId)) (x y : VS) (w : World) : Prop where
  vw : VW w0 l b g m c x w
  rb : RB8 q r w0.heap.size k y w
  made1 : x.disk.made ≤ 40 * k
  made2 : y.disk.made ≤ 40 * k
  op : ∀ z, ob = some z → w.heap[o]? = some (.cells z.1 z.2 (0, 0)) ∧ Kind8 z.2
section
variable {w0 w w' : World} {l b g m c q r o k : Nat} {ob : Option (Array Value × TypeId)} {x y : VS} {z : Array Value × TypeId}
theorem RS8.op (k : RS8 w0.heap.size w w') {i : Nat} {t : TypeId} {C : Array Value} {f : Nat × Nat} (h : w.heap[i]? = some (.cells C t f)) (hk : Kind8 t) : w'.heap[i]? = some (.cells C t f) := k.keep h hk.2
theorem VKeep.op (k : VKeep w w') {i : Nat} {t : TypeId} {C : Array Value} {f : Nat × Nat} (h : w.heap[i]? = some (.cells C t f)) (hk : Kind8 t) : w'.heap[i]? = some (.cells C t f) := k.keep h hk.1.1 hk.1.2.1 hk.1.2.2.1 hk.1.2.2.2.1 hk.1.2.2.2.2
theorem BB.later (h : BB w0 l b g m c q r o k ob x y w) (hB : Below w.heap.size w w') : BB w0 l b g m c q r o k ob x y w' :=
  ⟨h.vw.later hB, h.rb.below hB, h.made1, h.made2, fun z e => ⟨keeps_of hB (h.op z e).1, (h.op z e).2⟩⟩
theorem BB.le (h : BB w0 l b g m c q r o k ob x y w) {k' : Nat} (hk : k ≤ k') : BB w0 l b g m c q r o k' ob x y w := ⟨h.vw, h.rb.le hk, by have := h.made1; omega, by have := h.made2; omega, h.op⟩
theorem BB.drop (h : BB w0 l b g m c q r o k ob x y w) (o' : Nat) : BB w0 l b g m c q r o' k none x y w := ⟨h.vw, h.rb, h.made1, h.made2, fun _ e => by cases e⟩
theorem BB.holds (h : BB w0 l b g m c q r o k ob x y w) {o' : Nat} (e : w.heap[o']? = some (.cells z.1 z.2 (0, 0))) (hz : Kind8 z.2) : BB w0 l b g m c q r o' k (some z) x y w := ⟨h.vw, h.rb, h.made1, h.made2, fun _ e' => by cases e'; exact ⟨e, hz⟩⟩
theorem BB.turn {x' : VS} (h : BB w0 l b g m c q r o k ob x y w) (hl : VW w0 l b g m c x' w') (hk : VKeep w w') (hm : x'.disk.made ≤ x.disk.made + 30) : BB w0 l b g m c q r o (k + 1) ob x' y w' := by
  have h1 := h.made1
  have h2 := h.made2
  exact ⟨hl, (h.rb.kept hk).le (by omega), by omega, by omega, fun z e => ⟨hk.op (h.op z e).1 (h.op z e).2, (h.op z e).2⟩⟩
theorem BB.rturn {y' : VS} (h : BB w0 l b g m c q r o k ob x y w) (hr : RB8 q r w0.heap.size (k + 1) y' w') (hs : RS8 w0.heap.size w w') (hm : y'.disk.made ≤ y.disk.made + 30) : BB w0 l b g m c q r o (k + 1) ob x y' w' := by
  have h1 := h.made1
  have h2 := h.made2
  exact ⟨h.vw.s8 hs, hr, by omega, by omega, fun z e => ⟨hs.op (h.op z e).1 (h.op z e).2, (h.op z e).2⟩⟩
theorem BB.read (h : BB w0 l b g m c q r o k ob x y w) (v : Int) (hv : I64 v) :
    Calls Tryz.prog 5 #[.pointer (some ⟨l, 0, none⟩), .int .i64 v] w fun e w' => e = .returned (.tuple #[.string (x.read v).2.1, .int .i64 (x.read v).1]) ∧ BB w0 l b g m c q r o (k + 1) ob (x.read v).2.2 y w' :=
  (h.vw.read v hv).mono fun _ _ hh => ⟨hh.1, h.turn hh.2.1 hh.2.2 (by rw [made_vread]; omega)⟩
theorem BB.write (h : BB w0 l b g m c q r o k ob x y w) (hk : k < 1000000) (v : Int) (hv : I64 v) (p : ByteArray) (hp : p.size ≤ 140737488355328) :
    Calls Tryz.prog 7 #[.pointer (some ⟨l, 0, none⟩), .int .i64 v, .string p] w fun e w' => e = .returned (.int .i64 (x.write v p).1) ∧ BB w0 l b g m c q r o (k + 1) ob (x.write v p).2 y w' :=
  (h.vw.write (by have := h.made1; omega) v hv p hp).mono fun _ _ hh => ⟨hh.1, h.turn hh.2.1 hh.2.2 (by have := made_vwrite x v p; omega)⟩
theorem BB.commit (h : BB w0 l b g m c q r o k ob x y w) (hk : k < 1000000) (t : ByteArray) (ht : t.size ≤ 140737488355328) :
    Calls Tryz.prog 9 #[.pointer (some ⟨l, 0, none⟩), .string t] w fun e w' => e = .returned (.int .i64 (x.commit t).1) ∧ BB w0 l b g m c q r o (k + 1) ob (x.commit t).2 y w' :=
  (h.vw.commit (by have := h.made1; omega) t ht).mono fun _ _ hh => ⟨hh.1, h.turn hh.2.1 hh.2.2 (by have := made_vcommit x t; omega)⟩
theorem BB.arm (h : BB w0 l b g m c q r o k ob x y w) (n : Int) (hn : I64 n) {kp : ByteArray} (hkp : kp.size ≤ 140737488355328) :
    Calls Tryz.prog 11 #[.pointer (some ⟨b, 0, none⟩), .int .i64 n, .string kp] w fun e w' => e = .returned (.int .i64 (x.disk.armE n)) ∧ BB w0 l b g m c q r o (k + 1) ob { x with disk := x.disk.setArm n kp } y w' :=
  (h.vw.arm n hn hkp).mono fun _ _ hh => ⟨hh.1, h.turn hh.2.1 hh.2.2 (by have := made_setArm x.disk n kp; show (x.disk.setArm n kp).made ≤ _; omega)⟩
theorem BB.bad (h : BB w0 l b g m c q r o k ob x y w) (n : Int) (hn : I64 n) (f : Bool) :
    Calls Tryz.prog 13 #[.pointer (some ⟨b, 0, none⟩), .int .i64 n, .bool f] w fun e w' => e = .returned (.int .i64 (x.disk.may n)) ∧ BB w0 l b g m c q r o (k + 1) ob { x with disk := x.disk.setBad n f } y w' :=
  (h.vw.bad n hn f).mono fun _ _ hh => ⟨hh.1, h.turn hh.2.1 hh.2.2 (by have := made_setBad x.disk n f; show (x.disk.setBad n f).made ≤ _; omega)⟩
theorem BB.crash (h : BB w0 l b g m c q r o k ob x y w) (hk : k < 1000000) {kp : ByteArray} (hkp : kp.size ≤ 140737488355328) :
    Calls Tryz.prog 15 #[.pointer (some ⟨b, 0, none⟩), .string kp] w fun e w' => e = .returned (.int .i64 x.disk.crashE) ∧ BB w0 l b g m c q r o (k + 1) ob { x with disk := x.disk.crash kp } y w' :=
  (h.vw.crash (by have := h.made1; omega) hkp).mono fun _ _ hh => ⟨hh.1, h.turn hh.2.1 hh.2.2 (by have := made_crash x.disk kp; show (x.disk.crash kp).made ≤ _; omega)⟩
theorem BB.revive (h : BB w0 l b g m c q r o k ob x y w) :
    Calls Tryz.prog 17 #[.pointer (some ⟨b, 0, none⟩)] w fun e w' => e = .returned (.tuple #[]) ∧ BB w0 l b g m c q r o (k + 1) ob { x with disk := x.disk.revive } y w' :=
  h.vw.revive.mono fun _ _ hh => ⟨hh.1, h.turn hh.2.1 hh.2.2 (by have := made_revive x.disk; show x.disk.revive.made ≤ _; omega)⟩
theorem BB.root (h : BB w0 l b g m c q r o k ob x y w) :
    Calls Tryz.prog 24 #[.pointer (some ⟨l, 0, none⟩)] w fun e w' => e = .returned (.tuple #[.string x.text, .int .i64 x.num]) ∧ BB w0 l b g m c q r o k ob x y w' :=
  h.vw.root.mono fun _ _ hh => ⟨hh.1, h.later hh.2.2⟩
theorem BB.rread (h : BB w0 l b g m c q r o k ob x y w) (hf : FineV y) (hk : k < 1000000) (v : Int) :
    Calls Tryz.prog 6 #[.pointer (some ⟨q, 0, none⟩), .int .i64 v] w fun e w' => e = .returned (.tuple #[.string (y.read v).2.1, .int .i64 (y.read v).1]) ∧ BB w0 l b g m c q r o (k + 1) ob x (y.read v).2.2 w' := by
  obtain ⟨zs, v0, v2, cc, h1, h2⟩ := h.rb
  exact (rread8_any h2 hf (by have := h.made2; omega) v).mono fun _ _ hh => ⟨hh.1, h.rturn ⟨zs, v0, v2, cc, by omega, hh.2.1⟩ hh.2.2 (by rw [made_vread]; omega)⟩
theorem BB.rwrite (h : BB w0 l b g m c q r o k ob x y w) (hf : FineV y) (hk : k < 1000000) (v : Int) (p : ByteArray) (hp : p.size ≤ 140737488355328) :
    Calls Tryz.prog 8 #[.pointer (some ⟨q, 0, none⟩), .int .i64 v, .string p] w fun e w' => e = .returned (.int .i64 (y.write v p).1) ∧ BB w0 l b g m c q r o (k + 1) ob x (y.write v p).2 w' := by
  obtain ⟨zs, v0, v2, cc, h1, h2⟩ := h.rb
  exact (rwrite8_any h2 hf (by have := h.made2; omega) v p hp).mono fun _ _ hh => ⟨hh.1, h.rturn ⟨zs, v0, v2, cc, by omega, hh.2.1⟩ hh.2.2 (by have := made_vwrite y v p; omega)⟩
theorem BB.rcommit (h : BB w0 l b g m c q r o k ob x y w) (hf : FineV y) (hk : k < 1000000) (t : ByteArray) (ht : t.size ≤ 140737488355328) :
    Calls Tryz.prog 10 #[.pointer (some ⟨q, 0, none⟩), .string t] w fun e w' => e = .returned (.int .i64 (y.commit t).1) ∧ BB w0 l b g m c q r o (k + 1) ob x (y.commit t).2 w' := by
  obtain ⟨zs, v0, v2, cc, h1, h2⟩ := h.rb
  exact (rcommit_any h2 hf (by have := h.made2; omega) t ht).mono fun _ _ hh => ⟨hh.1, h.rturn ⟨zs, v0, v2, cc, by omega, hh.2.1⟩ hh.2.2 (by have := made_vcommit y t; omega)⟩
theorem BB.rarm (h : BB w0 l b g m c q r o k ob x y w) (n : Int) (hn : I64 n) {kp : ByteArray} (hkp : kp.size ≤ 140737488355328) :
    Calls Tryz.prog 12 #[.pointer (some ⟨r, 0, none⟩), .int .i64 n, .string kp] w fun e w' => e = .returned (.int .i64 (y.disk.armE n)) ∧ BB w0 l b g m c q r o (k + 1) ob x { y with disk := y.disk.setArm n kp } w' := by
  obtain ⟨zs, v0, v2, cc, h1, h2⟩ := h.rb
  obtain ⟨v1, kp0, hr⟩ := h2.ref
  refine (rarm_at hr n hn hkp).mono fun _ _ hh => ?_
  obtain ⟨e, ⟨kp', h6⟩, h7⟩ := hh
  obtain ⟨h8, h9⟩ := h2.dturn ⟨_, _, h6⟩ h7
  exact ⟨e, h.rturn ⟨zs, v0, v2, cc, by omega, h8⟩ h9 (by have := made_setArm y.disk n kp; show (y.disk.setArm n kp).made ≤ _; omega)⟩
theorem BB.rbad (h : BB w0 l b g m c q r o k ob x y w) (hf : FineV y) (hk : k < 1000000) (n : Int) (hn : I64 n) (f : Bool) :
    Calls Tryz.prog 14 #[.pointer (some ⟨r, 0, none⟩), .int .i64 n, .bool f] w fun e w' => e = .returned (.int .i64 (y.disk.may n)) ∧ BB w0 l b g m c q r o (k + 1) ob x { y with disk := y.disk.setBad n f } w' := by
  obtain ⟨zs, v0, v2, cc, h1, h2⟩ := h.rb
  obtain ⟨v1, kp0, hr⟩ := h2.ref
  refine (rbad_at hr hf.ok (by omega) n hn f).mono fun _ _ hh => ?_
  obtain ⟨e, ⟨zs', hz, v2', h6⟩, h7⟩ := hh
  obtain ⟨h8, h9⟩ := h2.dturn ⟨_, _, h6⟩ h7
  exact ⟨e, h.rturn ⟨zs', v0, v2', cc, by omega, h8⟩ h9 (by have := made_setBad y.disk n f; show (y.disk.setBad n f).made ≤ _; omega)⟩
theorem BB.rcrash (h : BB w0 l b g m c q r o k ob x y w) (hf : FineV y) (hk : k < 1000000) {kp : ByteArray} (hkp : kp.size ≤ 140737488355328) :
    Calls Tryz.prog 16 #[.pointer (some ⟨r, 0, none⟩), .string kp] w fun e w' => e = .returned (.int .i64 y.disk.crashE) ∧ BB w0 l b g m c q r o (k + 1) ob x { y with disk := y.disk.crash kp } w' := by
  obtain ⟨zs, v0, v2, cc, h1, h2⟩ := h.rb
  obtain ⟨v1, kp0, hr⟩ := h2.ref
  refine (rcrash_at hr hf.ok (by have := h.made2; omega) hkp).mono fun _ _ hh => ?_
  obtain ⟨e, h6, h7⟩ := hh
  obtain ⟨h8, h9⟩ := h2.dturn h6 h7
  exact ⟨e, h.rturn ⟨zs, v0, v2, cc, by omega, h8⟩ h9 (by have := made_crash y.disk kp; show (y.disk.crash kp).made ≤ _; omega)⟩
theorem BB.rrevive (h : BB w0 l b g m c q r o k ob x y w) :
    Calls Tryz.prog 18 #[.pointer (some ⟨r, 0, none⟩)] w fun e w' => e = .returned (.tuple #[]) ∧ BB w0 l b g m c q r o (k + 1) ob x { y with disk := y.disk.revive } w' := by
  obtain ⟨zs, v0, v2, cc, h1, h2⟩ := h.rb
  obtain ⟨v1, kp0, hr⟩ := h2.ref
  refine (rrevive_at hr).mono fun _ _ hh => ?_
  obtain ⟨e, h6, h7⟩ := hh
  obtain ⟨h8, h9⟩ := h2.dturn ⟨_, _, h6⟩ h7
  exact ⟨e, h.rturn ⟨zs, v0, v2, cc, by omega, h8⟩ h9 (by have := made_revive y.disk; show y.disk.revive.made ≤ _; omega)⟩
theorem BB.rimage (h : BB w0 l b g m c q r o k ob x y w) (hf : FineV y) :
    Calls Tryz.prog 26 #[.pointer (some ⟨r, 0, none⟩)] w fun e w' => e = .returned (.string (img y.disk.stay)) ∧ w = w' := by
  obtain ⟨zs, v0, v2, cc, h1, h2⟩ := h.rb
  obtain ⟨v1, kp0, hr⟩ := h2.ref
  exact rimage_at hr hf.ok
/-- what the law reads of the reference -/
theorem BB.cells (h : BB w0 l b g m c q r o k ob x y w) : w.cell? ⟨r, 3, none⟩ = some (.int .i64 y.disk.made) ∧ w.cell? ⟨q, 1, none⟩ = some (.string y.text) ∧ w.cell? ⟨q, 2, none⟩ = some (.int .i64 y.num) ∧ w.cell? ⟨q, 4, none⟩ = some (.bool y.dead) := by
  obtain ⟨zs, v0, v2, cc, h1, h2⟩ := h.rb
  exact h2.cells
theorem BB.open_ (h : BB w0 l b g m c q r o k ob x y w) :
    Calls Tryz.prog 19 #[.pointer (some ⟨b, 0, none⟩)] w fun e w' => ∃ p, e = .returned (.tuple #[.pointer p, .int .i64 (vopenE x.disk)]) ∧ ((vopenE x.disk = 0 ∧ ∃ t cc, p = some ⟨t, 0, none⟩ ∧ BB w0 t b g m cc q r o k ob (vopenX x.disk) y w') ∨ (vopenE x.disk ≠ 0 ∧ p = none)) ∧ Below w.heap.size w w' := by
  refine h.vw.open_.mono fun _ _ hh => ?_
  obtain ⟨p, e, h1, _, hB⟩ := hh
  have hl := h.later hB
  refine ⟨p, e, ?_, hB⟩
  rcases h1 with ⟨e0, t, cc, rfl, h2⟩ | h1
  · exact .inl ⟨e0, t, cc, rfl, h2, hl.rb, h.made1, h.made2, hl.op⟩
  · exact .inr h1
theorem BB.ropen (h : BB w0 l b g m c q r o k ob x y w) (hf : FineV y) (hk : k < 1000000) :
    Calls Tryz.prog 20 #[.pointer (some ⟨r, 0, none⟩)] w fun e w' => ∃ p, e = .returned (.tuple #[.pointer p, .int .i64 (vopenE y.disk)]) ∧ ((vopenE y.disk = 0 ∧ ∃ t, p = some ⟨t, 0, none⟩ ∧ BB w0 l b g m c t r o k ob x (vopenX y.disk) w') ∨ (vopenE y.disk ≠ 0 ∧ p = none)) ∧ Below w.heap.size w w' := by
  obtain ⟨zs, v0, v2, cc, h1, h2⟩ := h.rb
  obtain ⟨v1, kp0, hr⟩ := h2.ref
  refine (rvopen_any hr hf.ok (by have := h.made2; omega)).mono fun _ _ hh => ?_
  obtain ⟨p, e, h6, hB⟩ := hh
  have hl := h.later hB
  have hsz := h.vw.below.size
  refine ⟨p, e, ?_, hB⟩
  rcases h6 with ⟨e0, t, cc', rfl, hn⟩ | ⟨e0, rfl⟩
  · refine .inl ⟨e0, t, rfl, hl.vw, ⟨zs, v0, v2, cc', h1, ⟨hn.obj, ⟨v1, kp0, hr.below hB⟩, ⟨fun i => i = cc', .slice none 0 0, ⟨hn.kept, World.ownsRow_nil _ _ _ _, fun i => by simp [Value.ownBlock], by simp [Value.ownBlock], Nat.le_trans hsz hn.low.2⟩⟩, Nat.le_trans hsz hn.low.1⟩⟩, h.made1, h.made2, hl.op⟩
  · exact .inr ⟨e0, rfl⟩
end
end Go.Proofs.YtknfakaklmpboaaGreatDoor

namespace Go.Proofs.YtknfakaklmpboaaGreatDoor
open Go.RowKit Go Go.Maps SM

section
variable {w0 w w' : World} {l b g m c l' b' g' m' c' q r o k : Nat} {ob : Option (Array Value × TypeId)} {x y xo : VS}
/-- the disk is cloned -/
structure B1 (w0 : World) (l b g m c b' g' m' q r o k : Nat) (ob : Option (Array Value × TypeId)) (x y : VS) (w : World) : Prop where
  old : BB w0 l b g m c q r o k ob x y w
  disk : DiskAt b' g' m' x.disk w
  far : ∃ N F, VolAt w0.heap.size l b g m c F x w ∧ (∀ i, VFoot l b g m F i → i < N) ∧ N ≤ b' ∧ N ≤ g' ∧ N ≤ m' ∧ N ≤ w.heap.size ∧ w0.heap.size ≤ N
/-- the volume too; xo: the old one -/
structure B2 (w0 : World) (l b g m c l' b' g' m' c' q r o k : Nat) (ob : Option (Array Value × TypeId)) (xo x y : VS) (w : World) : Prop where
  new : BB w0 l' b' g' m' c' q r o k ob x y w
  pair : ∃ F F', VolAt w0.heap.size l b g m c F xo w ∧ VolAt w0.heap.size l' b' g' m' c' F' x w ∧ ∀ i, VFoot l b g m F i → ¬ VFoot l' b' g' m' F' i
  low : w0.heap.size ≤ l
  over : Over w0.heap.size b g m
  made : xo.disk.made ≤ 40 * k
theorem BB.clone1 (h : BB w0 l b g m c q r o k ob x y w) :
    Calls Tryz.prog 22 #[.pointer (some ⟨b, 0, none⟩)] w fun e w' => ∃ b' g' m', e = .returned (.pointer (some ⟨b', 0, none⟩)) ∧ B1 w0 l b g m c b' g' m' q r o k ob x y w' := by
  obtain ⟨F, hv⟩ := h.vw.is
  refine (clone_any' h.vw.disk).mono fun _ _ hh => ?_
  obtain ⟨b', g', m', h1, h2, h3, h4⟩ := hh
  exact ⟨b', g', m', h1, h.later h4, h2, w.heap.size, F, hv.below h4, fun i hi => hv.lt hi, h3.1, h3.2.1, h3.2.2, h4.size, h.vw.below.size⟩
theorem vfoot_low {base : Nat} {F : Nat → Prop} {x : VS} (h : VolAt base l b g m c F x w) (hl : base ≤ l) (ho : Over base b g m) : ∀ i, VFoot l b g m F i → base ≤ i := fun i hi => by
  rcases hi with rfl | hi | hi
  · exact hl
  · exact ho.foot i hi
  · exact h.kept.low hi
theorem B1.clone2 (h : B1 w0 l b g m c b' g' m' q r o k ob x y w) :
    Calls Tryz.prog 23 #[.pointer (some ⟨l, 0, none⟩), .pointer (some ⟨b', 0, none⟩)] w fun e w' => ∃ l' c', e = .returned (.pointer (some ⟨l', 0, none⟩)) ∧ B2 w0 l b g m c l' b' g' m' c' q r o k ob x x y w' := by
  obtain ⟨N, F, hv, h1, h2, h3, h4, h5, h6⟩ := h.far
  have hfar : ∀ i, VFoot l b g m F i → ¬ Foot b' g' m' i := fun i hi hj => by
    have := h1 i hi
    rcases hj with rfl | rfl | rfl <;> omega
  refine (callsIn_wide.1 (vclone_in 6 (by omega) hv h.disk hfar)).mono fun _ _ hh => ?_
  obtain ⟨l', c', F1, F2, e, hl, ho, hn, hd, hs, _⟩ := hh
  have hz := h.old.vw.below.size
  have hB := h.old.vw.below.trans (hs.below (vfoot_low hv h.old.vw.low h.old.vw.over) hz)
  have hk := hv.vkeep hs
  have hn' := hn.lower hz
  refine ⟨l', c', e, ⟨⟨⟨F2, hn'⟩, by omega, ⟨by omega, by omega, by omega⟩, hB⟩, h.old.rb.kept hk, h.old.made1, h.old.made2, fun z e => ⟨hk.op (h.old.op z e).1 (h.old.op z e).2, (h.old.op z e).2⟩⟩, ⟨F1, F2, ho, hn', hd⟩, h.old.vw.low, h.old.vw.over, h.old.made1⟩
theorem B2.step {F F' F1 : Nat → Prop} {xo' : VS} (h : B2 w0 l b g m c l' b' g' m' c' q r o k ob xo x y w) (hv : VolAt w0.heap.size l b g m c F xo w) (hn : VolAt w0.heap.size l' b' g' m' c' F' x w) (hd : ∀ i, VFoot l b g m F i → ¬ VFoot l' b' g' m' F' i)
    (hv' : VolAt w0.heap.size l b g m c F1 xo' w') (hs : Stir (VFoot l b g m F) w w') (hF : ∀ i, F1 i → F i ∨ w.heap.size ≤ i) (hm : xo'.disk.made ≤ xo.disk.made + 30) : B2 w0 l b g m c l' b' g' m' c' q r o (k + 1) ob xo' x y w' := by
  have hk := hv.vkeep hs
  have hn' := hn.stay hs (fun i hi hj => hd i hj hi)
  have h1 := h.made
  refine ⟨h.new.turn ⟨⟨F', hn'⟩, h.new.vw.low, h.new.vw.over, h.new.vw.below.trans (hs.below (vfoot_low hv h.low h.over) h.new.vw.below.size)⟩ hk (by omega), ⟨F1, F', hv', hn', fun i hi hj => ?_⟩, h.low, h.over, by omega⟩
  rcases hi with hi | hi | hi
  · exact hd i (.inl hi) hj
  · exact hd i (.inr (.inl hi)) hj
  · rcases hF i hi with e | e
    · exact hd i (.inr (.inr e)) hj
    · have := hn.lt hj; omega
theorem B2.write (h : B2 w0 l b g m c l' b' g' m' c' q r o k ob xo x y w) (hk : k < 1000000) (v : Int) (hv : I64 v) (p : ByteArray) (hp : p.size ≤ 140737488355328) :
    Calls Tryz.prog 7 #[.pointer (some ⟨l, 0, none⟩), .int .i64 v, .string p] w fun e w' => (∃ z, e = .returned (.int .i64 z)) ∧ ∃ xo', B2 w0 l b g m c l' b' g' m' c' q r o (k + 1) ob xo' x y w' := by
  obtain ⟨F, F', h1, h2, h3⟩ := h.pair
  refine (vwrite_any h1 (by have := h.made; omega) v hv p hp).mono fun _ _ hh => ?_
  obtain ⟨e, F1, h4, h5, h6⟩ := hh
  exact ⟨⟨_, e⟩, _, h.step h1 h2 h3 h4 h5 h6 (by have := made_vwrite xo v p; omega)⟩
theorem B2.commit (h : B2 w0 l b g m c l' b' g' m' c' q r o k ob xo x y w) (hk : k < 1000000) (t : ByteArray) (ht : t.size ≤ 140737488355328) :
    Calls Tryz.prog 9 #[.pointer (some ⟨l, 0, none⟩), .string t] w fun e w' => (∃ z, e = .returned (.int .i64 z)) ∧ ∃ xo', B2 w0 l b g m c l' b' g' m' c' q r o (k + 1) ob xo' x y w' := by
  obtain ⟨F, F', h1, h2, h3⟩ := h.pair
  refine (vcommit_any h1 (by have := h.made; omega) t ht).mono fun _ _ hh => ?_
  obtain ⟨e, h4, h5⟩ := hh
  exact ⟨⟨_, e⟩, _, h.step h1 h2 h3 h4 h5 (fun _ e => .inl e) (by have := made_vcommit xo t; omega)⟩
theorem B2.crash (h : B2 w0 l b g m c l' b' g' m' c' q r o k ob xo x y w) (hk : k < 1000000) {s : ByteArray} (hs : s.size ≤ 140737488355328) :
    Calls Tryz.prog 15 #[.pointer (some ⟨b, 0, none⟩), .string s] w fun e w' => (∃ z, e = .returned (.int .i64 z)) ∧ BB w0 l' b' g' m' c' q r o (k + 1) ob x y w' := by
  obtain ⟨F, F', h1, h2, h3⟩ := h.pair
  refine (crash_any h1.disk (by have := h.made; omega) hs).mono fun _ _ hh => ?_
  obtain ⟨e, h4, h5⟩ := hh
  have hn' := h2.stay h5 (fun i hi hj => h3 i (.inr (.inl hj)) hi)
  exact ⟨⟨_, e⟩, h.new.turn ⟨⟨F', hn'⟩, h.new.vw.low, h.new.vw.over, h.new.vw.below.trans (h5.below (fun i hi => h.over.foot i hi) h.new.vw.below.size)⟩ (h1.disk.vkeep h5) (by omega)⟩
end
end Go.Proofs.YtknfakaklmpboaaGreatDoor

