/-
  A log that is opened is what its sectors hold.
-/
import Derived.Test.YteboacjniokfpaaGreatDoorNvP
namespace Go.Proofs.YteboacjniokfpaaGreatDoor
open Go.RowKit Go Go.Maps SM

section
variable {s : DS}
theorem Quiet.readE (h : Quiet s) {n : Nat} (hn : n < s.stay.length) : s.readE (n : Int) = 0 := by
  have h2 : ¬ (s.stay.length : Int) ≤ (n : Int) := by omega
  have h3 : ¬ (n : Int) < 0 := by omega
  simp [DS.readE, DS.may, h.dead, h.bad, h2, h3]
theorem Quiet.readS (h : Quiet s) {n : Nat} (hn : n < s.stay.length) : s.readS (n : Int) = s.stay[n] := by
  unfold DS.readS
  rw [if_pos (h.readE hn)]
  unfold DS.look
  rw [h.none_]
  simp [seek, hn]
theorem Quiet.loads (h : Quiet s) : ∀ (k from_ i : Nat), from_ + i + k ≤ s.stay.length → loads s from_ k i = (0, ((flat s.stay).drop (64 * (from_ + i))).take (64 * k))
  | 0, _, _, _ => by simp [Go.Proofs.YteboacjniokfpaaGreatDoor.loads]
  | k + 1, from_, i, hf => by
    have hn : from_ + i < s.stay.length := by omega
    rw [loads_go (h.readE hn), Quiet.loads h k from_ (i + 1) (by omega), h.readS hn, ← flat_at h.ok.sz (from_ + i) hn]
    rw [show 64 * (k + 1) = 64 + 64 * k by omega, List.take_add, List.drop_drop, show 64 * (from_ + (i + 1)) = 64 * (from_ + i) + 64 by omega]
theorem open_holds (h : Quiet s) {g : Nat} {L : List ByteArray} (hh : Holds s.stay g L) : openE s = 0 ∧ openX s = ⟨g, L, false, s⟩ := by
  have h5 := hh.five
  have h0 : 0 < s.stay.length := by omega
  have hu := hh.fits
  have hle := h.ok.le
  have hg := hh.most
  have hr0 := h.readE h0
  have hs0 := h.readS h0
  have hst : s.stay[0] = headB g (recB L).length := by
    have := hh.head
    rw [List.getElem?_eq_getElem h0] at this
    exact Option.some.inj this
  rw [hst] at hs0
  have hr0' : s.readE 0 = 0 := hr0
  have hs0' : s.readS 0 = headB g (recB L).length := hs0
  have hd : (headB g (recB L).length).data.toList = headL g (recB L).length := by simp [headB]
  have eG : openG s = g := by rw [openG, saidG, hs0', hd, head_gen _ (by omega)]
  have eU : openU s = (recB L).length := by rw [openU, saidU, hs0', hd, head_used _ (by omega)]
  have eF : openForm s = false := by
    have e1 : saidOk (s.readS 0) = true := by
      rw [saidOk_is]
      exact ⟨by rw [show saidG (s.readS 0) = openG s from rfl, eG]; exact hg, by rw [show saidG (s.readS 0) = openG s from rfl, show saidU (s.readS 0) = openU s from rfl, eG, eU]; exact hs0'⟩
    have hu' : (recB L).length ≤ 64 * halfN s := hu
    rw [openForm, e1, eU]
    simp; omega
  have hfit := halfAt_fit s.stay g h.ok.pos (n := ((recB L).length + 63) / 64) (by omega)
  have eL : openL s = (0, ((flat s.stay).drop (64 * halfAt s.stay g)).take (64 * (((recB L).length + 63) / 64))) := by
    rw [openL, eG, eU, h.loads _ _ _ (by omega)]
    rfl
  have eR : openRecs s = some L := by
    rw [openRecs, eL, eU]
    show recsOf ((((flat s.stay).drop (64 * halfAt s.stay g)).take (64 * (((recB L).length + 63) / 64))).take (recB L).length) = some L
    rw [List.take_take, Nat.min_eq_left (by omega)]
    have := hh.is
    change ((flat s.stay).drop (64 * halfAt s.stay g)).take (recB L).length = recB L at this
    rw [this]
    exact recsOf_recB hh.few
  constructor
  · rw [openE, if_neg (by omega), if_neg (by simpa using hr0'), eF, eL, eR]
    simp
  · rw [openX, eG, eR]; rfl
theorem Good.opens {x : LS} (h : Good x) : openE x.disk = 0 ∧ openX x.disk = x := by
  obtain ⟨h1, h2⟩ := open_holds h.quiet h.holds
  refine ⟨h1, ?_⟩
  rw [h2]
  have := h.alive
  cases x
  simp at this ⊢
  exact this
theorem half_start (x : LS) (n : Int) : (x.start n).disk.stay.length = x.disk.stay.length := by
  have h := (len_heads n.toNat 0 x.disk).1
  unfold LS.start
  split
  · rfl
  · split
    · rfl
    · split <;> simp [h]
theorem len_app (x : LS) (r : ByteArray) : (x.app r).disk.stay.length = x.disk.stay.length := by
  have h := (len_keepD x.gen (recB x.recs).length (recB (x.recs ++ [r])) x.disk).1
  have h2 : (appD x.gen x.recs r x.disk).2.stay.length = x.disk.stay.length := h
  unfold LS.app
  split
  · rfl
  · split
    · rfl
    · split
      · rfl
      · split <;> simp [h2]
/-- the power goes between calls: nothing is loose -/
theorem Quiet.crash_stay (h : Quiet s) (keep : ByteArray) : (s.crash keep).stay = s.stay ∧ Gone (s.crash keep) := by
  have e : s.crash keep = s.goes keep := by simp [DS.crash, h.dead]
  rw [e]
  refine ⟨?_, h.ok.goes keep, rfl, h.bad, rfl⟩
  show laid _ s.loose s.stay = s.stay
  rw [h.none_, laid_nil]
/-- still nothing armed, made so and so often -/
structure Calm7 (x : LS) (k : Nat) : Prop where
  good : Good x
  arm : x.disk.armed = 0
  made : x.disk.made ≤ k
theorem Calm7.app {x : LS} {k : Nat} (h : Calm7 x k) (r : ByteArray) : Calm7 (x.app r) (k + 30) := by
  have hm := made_app x r
  have := h.made
  by_cases hf : x.takes r
  · obtain ⟨_, _, h3, h4⟩ := h.good.app_calm h.arm hf
    exact ⟨h3, h4, by omega⟩
  · obtain ⟨h1, _⟩ := h.good.app_no hf
    rw [h1]
    exact ⟨h.good, h.arm, by omega⟩
theorem Calm7.start {x : LS} {k : Nat} (h : Calm7 x k) (n : Int) : Calm7 (x.start n) (k + 30) := by
  have hm := made_start x n
  have := h.made
  cases hf : x.form n with
  | false =>
    obtain ⟨_, h3, h4⟩ := h.good.start_calm h.arm hf
    exact ⟨h3, h4, by omega⟩
  | true =>
    obtain ⟨h1, _⟩ := h.good.start_no hf
    rw [h1]
    exact ⟨h.good, h.arm, by omega⟩
theorem calm_new {n : Nat} (h1 : 5 ≤ n) (h2 : n ≤ 16384) : Calm7 ⟨(0 : Int).toNat, [], false, formD (fresh (blank n)) 0⟩ 2 := by
  obtain ⟨_, h3, h4, h5, _⟩ := good_new h1 h2
  exact ⟨h3, h4, h5⟩
theorem gen_app (x : LS) (r : ByteArray) : (x.app r).gen = x.gen := by
  unfold LS.app
  split
  · rfl
  · split
    · rfl
    · split
      · rfl
      · split <;> rfl
/-- the power is gone: nothing is begun -/
theorem dead_heads {g u : Nat} (h : s.dead = true) : heads g u s = (2, s) := by
  have e1 : ∀ n x, s.writeE n x = 2 := fun n x => by simp [DS.writeE, DS.may, h]
  have e2 : ∀ n x, s.write n x = s := fun n x => by simp [DS.write, DS.fits, DS.may, h]
  unfold heads put puts
  rw [e1, e2]
  simp
def LS.crashed (x : LS) (keep : ByteArray) : LS := { x with disk := x.disk.crash keep }
def LS.revived (x : LS) : LS := { x with disk := x.disk.revive }
theorem dies_start {x : LS} (h : Good x) (hg : x.gen = 0) (keep : ByteArray) : (x.crashed keep).startE 9 = 2 ∧ (x.crashed keep).start 9 = { x.crashed keep with dead := true } := by
  have hd : (x.crashed keep).disk.dead = true := (h.quiet.crash_stay keep).2.dead
  have hf : (x.crashed keep).form 9 = false := by simp [LS.form, LS.crashed, hg]
  have ha : (x.crashed keep).dead = false := h.alive
  have hh : heads 9 0 (x.crashed keep).disk = (2, (x.crashed keep).disk) := dead_heads hd
  simp [LS.startE, LS.start, hf, ha, hh]
theorem dies_then {x : LS} (hg : x.gen = 0) {s : DS} (r : ByteArray) (hr : r.size ≤ 1300) : ({ x with dead := true, disk := s } : LS).appE r = 2 ∧ ({ x with dead := true, disk := s } : LS).app r = { x with dead := true, disk := s } ∧ ({ x with dead := true, disk := s } : LS).startE 9 = 2 ∧ ({ x with dead := true, disk := s } : LS).start 9 = { x with dead := true, disk := s } := by
  have hf : ({ x with dead := true, disk := s } : LS).form 9 = false := by simp [LS.form, hg]
  simp [LS.appE, LS.app, LS.startE, LS.start, hf, show ¬ 1300 < r.size by omega]
theorem dies_open {x : LS} {k : Nat} (h : Calm7 x k) (keep : ByteArray) : openE (x.disk.crash keep).revive = 0 ∧ openX (x.disk.crash keep).revive = { x with disk := (x.disk.crash keep).revive } ∧ Calm7 { x with disk := (x.disk.crash keep).revive } k := by
  obtain ⟨h1, h2⟩ := h.good.quiet.crash_stay keep
  obtain ⟨h3, h4⟩ := h2.revive
  have hh : Holds (x.disk.crash keep).revive.stay x.gen x.recs := by rw [h4, h1]; exact h.good.holds
  obtain ⟨h5, h6⟩ := open_holds h3 hh
  have ha := h.good.alive
  refine ⟨h5, ?_, ⟨⟨h3, ha, hh⟩, rfl, ?_⟩⟩
  · rw [h6, ← ha]
  · have hm := h.made
    show (x.disk.crash keep).made ≤ k
    unfold DS.crash
    split <;> simpa [DS.goes] using hm
theorem Calm7.takes_room {x : LS} {k : Nat} (h : Calm7 x k) (r : ByteArray) (hr : r.size = 1) : (x.appE r == 0) = decide (3 ≤ x.room) := by
  have hh : x.takes r ↔ 3 ≤ x.room := by unfold LS.takes LS.room; omega
  by_cases hf : x.takes r
  · obtain ⟨h1, _⟩ := h.good.app_calm h.arm hf
    rw [h1, decide_eq_true (hh.1 hf)]; rfl
  · obtain ⟨_, h1, _⟩ := h.good.app_no hf
    rw [beq_eq_false_iff_ne.2 h1, decide_eq_false (fun e => hf (hh.2 e))]
theorem len_crash (s : DS) (keep : ByteArray) : (s.crash keep).stay.length = s.stay.length := by
  unfold DS.crash
  split <;> simp [DS.goes, length_laid]
theorem len_arm (s : DS) (n : Int) (keep : ByteArray) : (s.setArm n keep).stay.length = s.stay.length := by
  unfold DS.setArm
  split
  · rfl
  · split <;> rfl
section
variable {w0 w : World} {l b g m : Nat} {x : LS}
theorem LW.crash (h : LW w0 l b g m x w) (hm : x.disk.made < 900000000) {keep : ByteArray} (hkp : keep.size ≤ 140737488355328) :
    Calls Tryz.prog 15 #[.pointer (some ⟨b, 0, none⟩), .string keep] w fun e w' => e = .returned (.int .i64 x.disk.crashE) ∧ LW w0 l b g m (x.crashed keep) w' ∧ LKeep w w' :=
  (crash_any h.disk (by omega) hkp).mono fun _ _ hh => ⟨hh.1, h.turn hh.2.1 hh.2.2 (len_crash ..), h.disk.kept hh.2.2⟩
theorem LW.revive (h : LW w0 l b g m x w) :
    Calls Tryz.prog 17 #[.pointer (some ⟨b, 0, none⟩)] w fun e w' => e = .returned (.tuple #[]) ∧ LW w0 l b g m x.revived w' ∧ LKeep w w' :=
  (revive_any h.disk).mono fun _ _ hh => ⟨hh.1, h.turn hh.2.1 hh.2.2 rfl, h.disk.kept hh.2.2⟩
def LS.armed (x : LS) (n : Int) (keep : ByteArray) : LS := { x with disk := x.disk.setArm n keep }
theorem LW.arm (h : LW w0 l b g m x w) (n : Int) (hn : I64 n) {keep : ByteArray} (hkp : keep.size ≤ 140737488355328) :
    Calls Tryz.prog 11 #[.pointer (some ⟨b, 0, none⟩), .int .i64 n, .string keep] w fun e w' => e = .returned (.int .i64 (x.disk.armE n)) ∧ LW w0 l b g m (x.armed n keep) w' ∧ LKeep w w' :=
  (arm_any h.disk n hn hkp).mono fun _ _ hh => ⟨hh.1, h.turn hh.2.1 hh.2.2 (len_arm ..), h.disk.kept hh.2.2⟩
end
end
end Go.Proofs.YteboacjniokfpaaGreatDoor

