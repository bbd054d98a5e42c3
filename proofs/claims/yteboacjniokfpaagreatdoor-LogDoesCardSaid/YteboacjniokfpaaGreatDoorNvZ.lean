/-
  A log beside the reference's, and the call at hand: what each call of the two keeps.
-/
import Derived.Test.YteboacjniokfpaaGreatDoorNvY
import Derived.Test.YteboacjniokfpaaGreatDoorNvV
import Derived.Test.YteboacjniokfpaaGreatDoorNvQ
import Derived.Test.YteboacjniokfpaaGreatDoorDskZf
namespace Go.Proofs.YteboacjniokfpaaGreatDoor
open Go.RowKit Go Go.Maps SM

/-- which blocks the reference's log turns -/
def RS7 (B : Nat) (w w' : World) : Prop := ∃ F : Nat → Prop, Stir F w w' ∧ ∀ i, F i → ∃ C t f, w.heap[i]? = some (.cells C t f) ∧ (t = 49 ∨ t = 9 ∨ t = 51) ∧ B ≤ i
def Kind6 (e : TypeId) : Prop := (e ≠ 95 ∧ e ≠ 5 ∧ e ≠ 85) ∧ e ≠ 49 ∧ e ≠ 9 ∧ e ≠ 51
/-- what is so of every log -/
structure Fine (y : LS) : Prop where
  ok : y.disk.Ok
  gen : y.gen ≤ 1099511627776
  fit : (recB y.recs).length ≤ 64 * halfN y.disk
  sz : ∀ z ∈ y.recs, z.size ≤ 1300
  few : y.recs.length ≤ 1000000
theorem two_each : ∀ l : List ByteArray, 2 * l.length ≤ (recB l).length
  | [] => Nat.zero_le _
  | r :: l => by
    have := two_each l
    rw [recB_cons, List.length_append, List.length_append, length_leN, List.length_cons]
    omega
theorem LW.fine {w0 w : World} {l b g m : Nat} {x : LS} (h : LW w0 l b g m x w) : Fine x := by
  obtain ⟨v, hv⟩ := h.is
  have h1 := hv.1.le
  have h2 := two_each x.recs
  have h3 := hv.1.len
  exact ⟨h.ok, hv.1.gle, h1, hv.2, by omega⟩
/-- the reference's log -/
def RB (q r B k : Nat) (y : LS) (w : World) : Prop := ∃ zs v0 v2 u ub, zs.length ≤ k ∧ ub ≤ w.heap.size ∧ B ≤ q ∧ RL q r B ub u v0 v2 zs y w w
section
variable {q r B k : Nat} {y : LS} {w w' : World} {zs : List Int} {v0 v2 u : Value} {ub : Nat}
theorem RL.s7 (h : RL q r B ub u v0 v2 zs y w w) (hq : B ≤ q) (hs : Stir (fun k => k = q ∨ RF r v0 k) w w') : RS7 B w w' := by
  obtain ⟨v1, kp, hd⟩ := h.rd.ref
  refine ⟨_, hs, ?_⟩
  rintro i (rfl | rfl | e)
  · exact ⟨_, _, _, h.rd.obj, .inr (.inr rfl), hq⟩
  · exact ⟨_, _, _, hd.obj, .inl rfl, hd.low⟩
  · obtain ⟨C, hC⟩ := owns_block hd.st e
    exact ⟨C, _, _, hC, .inr (.inl rfl), (hd.st.lt _ e).1⟩
theorem RL.turn {s' : DS} {zs' : List Int} {v2' : Value} (h : RL q r B ub u v0 v2 zs y w w) (hd : ∃ v1 kp, RefAt r B s' zs' v0 v1 v2' kp w') (hs : Stir (RF r v0) w w') : RL q r B ub u v0 v2' zs' { y with disk := s' } w' w' := by
  obtain ⟨v1, kp, hr⟩ := h.rd.ref
  exact ⟨⟨hs.keep h.rd.obj (hr.not_log h.rd.obj), hd, Stir.refl _ _⟩, owns_stay h.row hs (fun i hi e => h.rd.row_apart h.row h.far i hi (.inr e)), h.far⟩
theorem RB.below (h : RB q r B k y w) (hB : Below w.heap.size w w') : RB q r B k y w' := by
  obtain ⟨zs, v0, v2, u, ub, h1, h3, h4, h5⟩ := h
  exact ⟨zs, v0, v2, u, ub, h1, Nat.le_trans h3 hB.size, h4, (h5.below hB).start0⟩
/-- blocks of the program's kinds are turned -/
theorem RB.kept (h : RB q r B k y w) (hk : LKeep w w') : RB q r B k y w' := by
  obtain ⟨zs, v0, v2, u, ub, h1, h3, h4, h5⟩ := h
  obtain ⟨v1, kp, hr⟩ := h5.rd.ref
  have hsz : w.heap.size ≤ w'.heap.size := by obtain ⟨F, hs, _⟩ := hk; exact hs.size
  exact ⟨zs, v0, v2, u, ub, h1, Nat.le_trans h3 hsz, h4, ⟨⟨hk.keep h5.rd.obj (by decide) (by decide) (by decide), ⟨v1, kp, ⟨hk.keep hr.obj (by decide) (by decide) (by decide), hk.owns hr.st (by decide) (by decide) (by decide), hk.owns hr.lo (by decide) (by decide) (by decide),
    hk.owns hr.ba (by decide) (by decide) (by decide), hr.bads, hr.few, hr.keep, hr.kple, hr.low⟩⟩, Stir.refl _ _⟩, hk.owns h5.row (by decide) (by decide) (by decide), h5.far⟩⟩
theorem RB.le {k' : Nat} (h : RB q r B k y w) (hk : k ≤ k') : RB q r B k' y w := by
  obtain ⟨zs, v0, v2, u, ub, h1, h2⟩ := h
  exact ⟨zs, v0, v2, u, ub, Nat.le_trans h1 hk, h2⟩
end
section
variable {w0 w w' : World} {l b g m : Nat} {x : LS}
theorem LW.s7 (h : LW w0 l b g m x w) (k : RS7 w0.heap.size w w') : LW w0 l b g m x w' := by
  obtain ⟨F, hs, hF⟩ := k
  obtain ⟨v, hv⟩ := h.is
  refine ⟨⟨v, hv.stay hs (fun i hi hf => ?_)⟩, h.low, h.over, h.below.trans (hs.below (fun i hf => by obtain ⟨_, _, _, _, _, e⟩ := hF i hf; exact e) h.below.size)⟩
  obtain ⟨C, t, f, e, ht, _⟩ := hF i hf
  rcases ht with rfl | rfl | rfl
  · exact hv.1.not_cells e (by decide) (by decide) (by decide) hi
  · exact hv.1.not_cells e (by decide) (by decide) (by decide) hi
  · exact hv.1.not_cells e (by decide) (by decide) (by decide) hi
theorem RS7.keep {B : Nat} (k : RS7 B w w') {i : Nat} {t : TypeId} {C : Array Value} {f : Nat × Nat} (h : w.heap[i]? = some (.cells C t f)) (hz : Kind6 t) : w'.heap[i]? = some (.cells C t f) := by
  obtain ⟨F, hs, hF⟩ := k
  exact hs.keep h (fun hi => by
    obtain ⟨C', t', f', hC, ht, _⟩ := hF i hi
    rw [h] at hC
    simp at hC
    rcases ht with e | e | e
    · exact hz.2.1 (hC.2.1.trans e)
    · exact hz.2.2.1 (hC.2.1.trans e)
    · exact hz.2.2.2 (hC.2.1.trans e))
theorem LW.bad (h : LW w0 l b g m x w) (n : Int) (hn : I64 n) (f : Bool) :
    Calls Tryz.prog 13 #[.pointer (some ⟨b, 0, none⟩), .int .i64 n, .bool f] w fun e w' => e = .returned (.int .i64 (x.disk.may n)) ∧ LW w0 l b g m { x with disk := x.disk.setBad n f } w' ∧ LKeep w w' :=
  (bad_any h.disk n hn f).mono fun _ _ hh => ⟨hh.1, h.turn hh.2.1 hh.2.2 (by unfold DS.setBad; split <;> rfl), h.disk.kept hh.2.2⟩
end

/-- the two logs, and the call at hand -/
structure LB (w0 : World) (l b g m q r o k : Nat) (ob : Option (Array Value × TypeId)) (x y : LS) (w : World) : Prop where
  lw : LW w0 l b g m x w
  rb : RB q r w0.heap.size k y w
  made1 : x.disk.made ≤ 40 * k
  made2 : y.disk.made ≤ 40 * k
  op : ∀ z, ob = some z → w.heap[o]? = some (.cells z.1 z.2 (0, 0)) ∧ Kind6 z.2
section
variable {w0 w w' : World} {l b g m q r o k : Nat} {ob : Option (Array Value × TypeId)} {x y : LS} {z : Array Value × TypeId}
theorem LB.later (h : LB w0 l b g m q r o k ob x y w) (hB : Below w.heap.size w w') : LB w0 l b g m q r o k ob x y w' :=
  ⟨h.lw.later hB, h.rb.below hB, h.made1, h.made2, fun z e => ⟨keeps_of hB (h.op z e).1, (h.op z e).2⟩⟩
theorem LB.le (h : LB w0 l b g m q r o k ob x y w) {k' : Nat} (hk : k ≤ k') : LB w0 l b g m q r o k' ob x y w := ⟨h.lw, h.rb.le hk, by have := h.made1; omega, by have := h.made2; omega, h.op⟩
theorem LB.drop (h : LB w0 l b g m q r o k ob x y w) (o' : Nat) : LB w0 l b g m q r o' k none x y w := ⟨h.lw, h.rb, h.made1, h.made2, fun _ e => by cases e⟩
theorem LB.holds (h : LB w0 l b g m q r o k ob x y w) {o' : Nat} (e : w.heap[o']? = some (.cells z.1 z.2 (0, 0))) (hz : Kind6 z.2) : LB w0 l b g m q r o' k (some z) x y w := ⟨h.lw, h.rb, h.made1, h.made2, fun _ e' => by cases e'; exact ⟨e, hz⟩⟩
theorem LB.turn {x' : LS} (h : LB w0 l b g m q r o k ob x y w) (hl : LW w0 l b g m x' w') (hk : LKeep w w') (hm : x'.disk.made ≤ x.disk.made + 30) : LB w0 l b g m q r o (k + 1) ob x' y w' := by
  have h1 := h.made1
  have h2 := h.made2
  exact ⟨hl, (h.rb.kept hk).le (by omega), by omega, by omega, fun z e => ⟨hk.keep (h.op z e).1 (h.op z e).2.1.1 (h.op z e).2.1.2.1 (h.op z e).2.1.2.2, (h.op z e).2⟩⟩
theorem LB.rturn {y' : LS} (h : LB w0 l b g m q r o k ob x y w) (hr : RB q r w0.heap.size (k + 1) y' w') (hs : RS7 w0.heap.size w w') (hm : y'.disk.made ≤ y.disk.made + 30) : LB w0 l b g m q r o (k + 1) ob x y' w' := by
  have h1 := h.made1
  have h2 := h.made2
  exact ⟨h.lw.s7 hs, hr, by omega, by omega, fun z e => ⟨hs.keep (h.op z e).1 (h.op z e).2, (h.op z e).2⟩⟩
theorem LB.append (h : LB w0 l b g m q r o k ob x y w) (hk : k < 1000000) (s : ByteArray) (hs : s.size ≤ 140737488355328) :
    Calls Tryz.prog 7 #[.pointer (some ⟨l, 0, none⟩), .string s] w fun e w' => e = .returned (.int .i64 (x.appE s)) ∧ LB w0 l b g m q r o (k + 1) ob (x.app s) y w' :=
  (h.lw.append (by have := h.made1; omega) s hs).mono fun _ _ hh => ⟨hh.1, h.turn hh.2.1 hh.2.2 (made_app x s)⟩
theorem LB.start (h : LB w0 l b g m q r o k ob x y w) (hk : k < 1000000) (n : Int) (hn : I64 n) :
    Calls Tryz.prog 9 #[.pointer (some ⟨l, 0, none⟩), .int .i64 n] w fun e w' => e = .returned (.int .i64 (x.startE n)) ∧ LB w0 l b g m q r o (k + 1) ob (x.start n) y w' :=
  (h.lw.start (by have := h.made1; omega) n hn).mono fun _ _ hh => ⟨hh.1, h.turn hh.2.1 hh.2.2 (made_start x n)⟩
theorem LB.arm (h : LB w0 l b g m q r o k ob x y w) (n : Int) (hn : I64 n) {kp : ByteArray} (hkp : kp.size ≤ 140737488355328) :
    Calls Tryz.prog 11 #[.pointer (some ⟨b, 0, none⟩), .int .i64 n, .string kp] w fun e w' => e = .returned (.int .i64 (x.disk.armE n)) ∧ LB w0 l b g m q r o (k + 1) ob { x with disk := x.disk.setArm n kp } y w' :=
  (h.lw.arm n hn hkp).mono fun _ _ hh => ⟨hh.1, h.turn hh.2.1 hh.2.2 (by have := made_setArm x.disk n kp; show (x.disk.setArm n kp).made ≤ _; omega)⟩
theorem LB.bad (h : LB w0 l b g m q r o k ob x y w) (n : Int) (hn : I64 n) (f : Bool) :
    Calls Tryz.prog 13 #[.pointer (some ⟨b, 0, none⟩), .int .i64 n, .bool f] w fun e w' => e = .returned (.int .i64 (x.disk.may n)) ∧ LB w0 l b g m q r o (k + 1) ob { x with disk := x.disk.setBad n f } y w' :=
  (h.lw.bad n hn f).mono fun _ _ hh => ⟨hh.1, h.turn hh.2.1 hh.2.2 (by have := made_setBad x.disk n f; show (x.disk.setBad n f).made ≤ _; omega)⟩
theorem LB.crash (h : LB w0 l b g m q r o k ob x y w) (hk : k < 1000000) {kp : ByteArray} (hkp : kp.size ≤ 140737488355328) :
    Calls Tryz.prog 15 #[.pointer (some ⟨b, 0, none⟩), .string kp] w fun e w' => e = .returned (.int .i64 x.disk.crashE) ∧ LB w0 l b g m q r o (k + 1) ob { x with disk := x.disk.crash kp } y w' :=
  (h.lw.crash (by have := h.made1; omega) hkp).mono fun _ _ hh => ⟨hh.1, h.turn hh.2.1 hh.2.2 (by have := made_crash x.disk kp; show (x.disk.crash kp).made ≤ _; omega)⟩
theorem LB.revive (h : LB w0 l b g m q r o k ob x y w) :
    Calls Tryz.prog 17 #[.pointer (some ⟨b, 0, none⟩)] w fun e w' => e = .returned (.tuple #[]) ∧ LB w0 l b g m q r o (k + 1) ob { x with disk := x.disk.revive } y w' :=
  h.lw.revive.mono fun _ _ hh => ⟨hh.1, h.turn hh.2.1 hh.2.2 (by have := made_revive x.disk; show x.disk.revive.made ≤ _; omega)⟩
theorem LB.rappend (h : LB w0 l b g m q r o k ob x y w) (hf : Fine y) (hk : k < 1000000) (s : ByteArray) (hs : s.size ≤ 140737488355328) :
    Calls Tryz.prog 8 #[.pointer (some ⟨q, 0, none⟩), .string s] w fun e w' => e = .returned (.int .i64 (y.appE s)) ∧ LB w0 l b g m q r o (k + 1) ob x (y.app s) w' := by
  obtain ⟨zs, v0, v2, u, ub, h1, h3, h4, h5⟩ := h.rb
  refine (rappend_any h5 hf.ok (by have := h.made2; omega) hf.gen h3 hf.fit hf.few hf.sz s hs).mono fun _ _ hh => ?_
  obtain ⟨ub', u', e, h6, h7⟩ := hh
  exact ⟨e, h.rturn ⟨zs, v0, v2, u', ub', by omega, h7, h4, h6.start0⟩ (h5.s7 h4 h6.rd.stir) (made_app y s)⟩
theorem LB.rstart (h : LB w0 l b g m q r o k ob x y w) (hf : Fine y) (hk : k < 1000000) (n : Int) (hn : I64 n) :
    Calls Tryz.prog 10 #[.pointer (some ⟨q, 0, none⟩), .int .i64 n] w fun e w' => e = .returned (.int .i64 (y.startE n)) ∧ LB w0 l b g m q r o (k + 1) ob x (y.start n) w' := by
  obtain ⟨zs, v0, v2, u, ub, h1, h3, h4, h5⟩ := h.rb
  refine (rstart_any h5 hf.ok (by have := h.made2; omega) h3 n hn).mono fun _ _ hh => ?_
  obtain ⟨ub', u', e, h6, h7⟩ := hh
  exact ⟨e, h.rturn ⟨zs, v0, v2, u', ub', by omega, h7, h4, h6.start0⟩ (h5.s7 h4 h6.rd.stir) (made_start y n)⟩
theorem RL.disk {ub : Nat} {u v0 v2 : Value} {zs : List Int} (h : RL q r w0.heap.size ub u v0 v2 zs y w w) (hq : w0.heap.size ≤ q) (hs : Stir (RF r v0) w w') : RS7 w0.heap.size w w' := h.s7 hq (hs.weaken (fun _ e => .inr e))
theorem LB.rarm (h : LB w0 l b g m q r o k ob x y w) (n : Int) (hn : I64 n) {kp : ByteArray} (hkp : kp.size ≤ 140737488355328) :
    Calls Tryz.prog 12 #[.pointer (some ⟨r, 0, none⟩), .int .i64 n, .string kp] w fun e w' => e = .returned (.int .i64 (y.disk.armE n)) ∧ LB w0 l b g m q r o (k + 1) ob x { y with disk := y.disk.setArm n kp } w' := by
  obtain ⟨zs, v0, v2, u, ub, h1, h3, h4, h5⟩ := h.rb
  obtain ⟨v1, kp0, hr⟩ := h5.rd.ref
  refine (rarm_at hr n hn hkp).mono fun _ _ hh => ?_
  obtain ⟨e, ⟨kp', h6⟩, h7⟩ := hh
  exact ⟨e, h.rturn ⟨zs, v0, v2, u, ub, by omega, Nat.le_trans h3 h7.size, h4, h5.turn ⟨_, _, h6⟩ h7⟩ (h5.disk h4 h7) (by have := made_setArm y.disk n kp; show (y.disk.setArm n kp).made ≤ _; omega)⟩
theorem LB.rbad (h : LB w0 l b g m q r o k ob x y w) (hf : Fine y) (hk : k < 1000000) (n : Int) (hn : I64 n) (f : Bool) :
    Calls Tryz.prog 14 #[.pointer (some ⟨r, 0, none⟩), .int .i64 n, .bool f] w fun e w' => e = .returned (.int .i64 (y.disk.may n)) ∧ LB w0 l b g m q r o (k + 1) ob x { y with disk := y.disk.setBad n f } w' := by
  obtain ⟨zs, v0, v2, u, ub, h1, h3, h4, h5⟩ := h.rb
  obtain ⟨v1, kp0, hr⟩ := h5.rd.ref
  refine (rbad_at hr hf.ok (by omega) n hn f).mono fun _ _ hh => ?_
  obtain ⟨e, ⟨zs', hz, v2', h6⟩, h7⟩ := hh
  exact ⟨e, h.rturn ⟨zs', v0, v2', u, ub, by omega, Nat.le_trans h3 h7.size, h4, h5.turn ⟨_, _, h6⟩ h7⟩ (h5.disk h4 h7) (by have := made_setBad y.disk n f; show (y.disk.setBad n f).made ≤ _; omega)⟩
theorem LB.rcrash (h : LB w0 l b g m q r o k ob x y w) (hf : Fine y) (hk : k < 1000000) {kp : ByteArray} (hkp : kp.size ≤ 140737488355328) :
    Calls Tryz.prog 16 #[.pointer (some ⟨r, 0, none⟩), .string kp] w fun e w' => e = .returned (.int .i64 y.disk.crashE) ∧ LB w0 l b g m q r o (k + 1) ob x { y with disk := y.disk.crash kp } w' := by
  obtain ⟨zs, v0, v2, u, ub, h1, h3, h4, h5⟩ := h.rb
  obtain ⟨v1, kp0, hr⟩ := h5.rd.ref
  refine (rcrash_at hr hf.ok (by have := h.made2; omega) hkp).mono fun _ _ hh => ?_
  obtain ⟨e, h6, h7⟩ := hh
  exact ⟨e, h.rturn ⟨zs, v0, v2, u, ub, by omega, Nat.le_trans h3 h7.size, h4, h5.turn h6 h7⟩ (h5.disk h4 h7) (by have := made_crash y.disk kp; show (y.disk.crash kp).made ≤ _; omega)⟩
theorem LB.rrevive (h : LB w0 l b g m q r o k ob x y w) :
    Calls Tryz.prog 18 #[.pointer (some ⟨r, 0, none⟩)] w fun e w' => e = .returned (.tuple #[]) ∧ LB w0 l b g m q r o (k + 1) ob x { y with disk := y.disk.revive } w' := by
  obtain ⟨zs, v0, v2, u, ub, h1, h3, h4, h5⟩ := h.rb
  obtain ⟨v1, kp0, hr⟩ := h5.rd.ref
  refine (rrevive_at hr).mono fun _ _ hh => ?_
  obtain ⟨e, h6, h7⟩ := hh
  exact ⟨e, h.rturn ⟨zs, v0, v2, u, ub, by omega, Nat.le_trans h3 h7.size, h4, h5.turn ⟨_, _, h6⟩ h7⟩ (h5.disk h4 h7) (by have := made_revive y.disk; show y.disk.revive.made ≤ _; omega)⟩
theorem LB.rimage (h : LB w0 l b g m q r o k ob x y w) (hf : Fine y) :
    Calls Tryz.prog 26 #[.pointer (some ⟨r, 0, none⟩)] w fun e w' => e = .returned (.string (img y.disk.stay)) ∧ w = w' := by
  obtain ⟨zs, v0, v2, u, ub, h1, h3, h4, h5⟩ := h.rb
  obtain ⟨v1, kp0, hr⟩ := h5.rd.ref
  exact rimage_at hr hf.ok
theorem LB.rroom (h : LB w0 l b g m q r o k ob x y w) (hf : Fine y) :
    Calls Tryz.prog 30 #[.pointer (some ⟨q, 0, none⟩)] w fun e w' => e = .returned (.int .i64 y.room) ∧ Below w.heap.size w w' := by
  obtain ⟨zs, v0, v2, u, ub, h1, h3, h4, h5⟩ := h.rb
  have hN : 64 * halfN y.disk ≤ 1048576 := by have := hf.ok.le; unfold halfN; omega
  exact rroom_any h5.rd hf.ok h5.texts (by have := hf.fit; omega) (by have := hf.few; omega)
/-- what the law reads of the reference -/
theorem LB.cells (h : LB w0 l b g m q r o k ob x y w) : ∃ u, w.cell? ⟨r, 3, none⟩ = some (.int .i64 y.disk.made) ∧ w.cell? ⟨q, 1, none⟩ = some (.int .i64 y.gen) ∧ w.cell? ⟨q, 2, none⟩ = some u ∧ w.cell? ⟨q, 3, none⟩ = some (.bool y.dead) ∧ TextsAt w u y.recs := by
  obtain ⟨zs, v0, v2, u, ub, h1, h3, h4, h5⟩ := h.rb
  obtain ⟨v1, kp0, hr⟩ := h5.rd.ref
  exact ⟨u, RO.c3 hr.obj, RLO.c1 h5.rd.obj, RLO.c2 h5.rd.obj, RLO.c3 h5.rd.obj, h5.texts⟩
theorem LB.open_ (h : LB w0 l b g m q r o k ob x y w) :
    Calls Tryz.prog 19 #[.pointer (some ⟨b, 0, none⟩)] w fun e w' => ∃ p, e = .returned (.tuple #[.pointer p, .int .i64 (openE x.disk)]) ∧ ((openE x.disk = 0 ∧ ∃ t, p = some ⟨t, 0, none⟩ ∧ LB w0 t b g m q r o k ob (openX x.disk) y w') ∨ (openE x.disk ≠ 0 ∧ p = none)) ∧ Below w.heap.size w w' := by
  refine h.lw.open_.mono fun _ _ hh => ?_
  obtain ⟨p, e, h1, _, hB⟩ := hh
  have hl := h.later hB
  refine ⟨p, e, ?_, hB⟩
  rcases h1 with ⟨e0, t, rfl, h2⟩ | h1
  · exact .inl ⟨e0, t, rfl, h2, hl.rb, h.made1, h.made2, hl.op⟩
  · exact .inr h1
theorem LB.ropen (h : LB w0 l b g m q r o k ob x y w) (hf : Fine y) (hk : k < 1000000) :
    Calls Tryz.prog 20 #[.pointer (some ⟨r, 0, none⟩)] w fun e w' => ∃ p, e = .returned (.tuple #[.pointer p, .int .i64 (openE y.disk)]) ∧ ((openE y.disk = 0 ∧ ∃ t, p = some ⟨t, 0, none⟩ ∧ LB w0 l b g m t r o k ob x (openX y.disk) w') ∨ (openE y.disk ≠ 0 ∧ p = none)) ∧ Below w.heap.size w w' := by
  obtain ⟨zs, v0, v2, u, ub, h1, h3, h4, h5⟩ := h.rb
  obtain ⟨v1, kp0, hr⟩ := h5.rd.ref
  refine (rlopen_row hr hf.ok (by have := h.made2; omega)).mono fun _ _ hh => ?_
  obtain ⟨h6, hB⟩ := hh
  have hl := h.later hB
  have hsz := h.lw.below.size
  rcases h6 with ⟨e0, e⟩ | ⟨e0, t, u', e, h7, h8, h9⟩
  · exact ⟨none, e, .inr ⟨e0, rfl⟩, hB⟩
  · refine ⟨some ⟨t, 0, none⟩, by rw [e0]; exact e, .inl ⟨e0, t, rfl, hl.lw, ⟨zs, v0, v2, u', w.heap.size, h1, hB.size, by omega, ⟨h7, h8, fun i hi hj => ?_⟩⟩, h.made1, h.made2, hl.op⟩, hB⟩
    obtain ⟨C, hC⟩ := owns_block hr.st hi
    have := lt_of_heap hC
    have := (h8.lt _ hj).1
    omega
end
end Go.Proofs.YteboacjniokfpaaGreatDoor

