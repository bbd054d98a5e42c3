/-
  A law's log, and all that it calls.
-/
import Derived.Test.YteboacjniokfpaaGreatDoorNvM
import Derived.Test.YteboacjniokfpaaGreatDoorNvK
import Derived.Test.YteboacjniokfpaaGreatDoorMC
namespace Go.Proofs.YteboacjniokfpaaGreatDoor
open Go.RowKit Go Go.Maps SM

/-- blocks of other kinds stay -/
def LKeep (w w' : World) : Prop := ∃ F : Nat → Prop, Stir F w w' ∧ ∀ i C e f, F i → w.heap[i]? = some (.cells C e f) → (e = 95 ∨ e = 5 ∨ e = 85)
section
variable {w w' : World}
theorem LKeep.of_below (h : Below w.heap.size w w') : LKeep w w' := ⟨fun _ => False, Stir.of_below h, fun _ _ _ _ h => h.elim⟩
theorem LKeep.owns {base size n : Nat} {e : TypeId} {v : Value} {xs : List Value} (k : LKeep w w') (h : w.ownsRow base e size v n xs) (h1 : e ≠ 95) (h2 : e ≠ 5) (h3 : e ≠ 85) : w'.ownsRow base e size v n xs := by
  obtain ⟨F, hs, hF⟩ := k
  exact owns_stay h hs (fun i hi hf => by
    obtain ⟨C, hC⟩ := owns_block h hi
    rcases hF i _ _ _ hf hC with e | e | e
    · exact h1 e
    · exact h2 e
    · exact h3 e)
theorem LKeep.keep (k : LKeep w w') {i : Nat} {C : Array Value} {e : TypeId} {f : Nat × Nat} (h : w.heap[i]? = some (.cells C e f)) (h1 : e ≠ 95) (h2 : e ≠ 5) (h3 : e ≠ 85) : w'.heap[i]? = some (.cells C e f) := by
  obtain ⟨F, hs, hF⟩ := k
  exact hs.keep h (fun hf => by
    rcases hF i _ _ _ hf h with e | e | e
    · exact h1 e
    · exact h2 e
    · exact h3 e)
theorem LIs.kept {base l b g m : Nat} {v : Value} {x : LS} (h : LIs base l b g m v x w) (k : Stir (LFoot l b g m v) w w') : LKeep w w' :=
  ⟨_, k, fun i C e f hf hC => by
    by_cases h1 : e = 95
    · exact .inl h1
    · by_cases h2 : e = 5
      · exact .inr (.inl h2)
      · by_cases h3 : e = 85
        · exact .inr (.inr h3)
        · exact absurd hf (h.1.not_cells hC h1 h2 h3)⟩
theorem DiskAt.kept {b g m : Nat} {s : DS} (h : DiskAt b g m s w) (k : Stir (Foot b g m) w w') : LKeep w w' :=
  ⟨_, k, fun i C e f hf hC => by
    by_cases h1 : e = 95
    · exact .inl h1
    · by_cases h2 : e = 5
      · exact .inr (.inl h2)
      · exact absurd hf (h.not_cells hC h1 h2)⟩
end
theorem made_app (x : LS) (r : ByteArray) : (x.app r).disk.made ≤ x.disk.made + 30 := by
  have h := (len_keepD x.gen (recB x.recs).length (recB (x.recs ++ [r])) x.disk).2
  have hl := length_recB_snoc x.recs r
  unfold LS.app
  split
  · omega
  · rename_i h1
    split
    · omega
    · split
      · omega
      · split
        · show (keepD _ _ _ _).2.made ≤ _; omega
        · show (keepD _ _ _ _).2.made ≤ _; omega
theorem made_start (x : LS) (n : Int) : (x.start n).disk.made ≤ x.disk.made + 30 := by
  have h := (len_heads n.toNat 0 x.disk).2
  unfold LS.start
  split
  · omega
  · split
    · omega
    · split
      · show (heads _ _ _).2.made ≤ _; omega
      · show (heads _ _ _).2.made ≤ _; omega

/-- a log that a law has made -/
structure LW (w0 : World) (l b g m : Nat) (x : LS) (w : World) : Prop where
  is : ∃ v, LIs w0.heap.size l b g m v x w
  low : w0.heap.size ≤ l
  over : Over w0.heap.size b g m
  below : Below w0.heap.size w0 w
section
variable {w0 w w' : World} {l b g m : Nat} {x : LS}
theorem LW.later (h : LW w0 l b g m x w) (hB : Below w.heap.size w w') : LW w0 l b g m x w' := by
  obtain ⟨v, hv⟩ := h.is
  exact ⟨⟨v, hv.below hB⟩, h.low, h.over, h.below.trans (hB.mono h.below.size)⟩
theorem lfoot_low {B : Nat} {v : Value} (hl : B ≤ l) (ho : Over B b g m) (hv : ∀ k, v.ownBlock = some k → B ≤ k) : ∀ k, LFoot l b g m v k → B ≤ k := by
  rintro k (rfl | h | h)
  · exact hl
  · exact ho.foot k h
  · exact hv k h
theorem LW.step {v v' : Value} {x' : LS} (h : LW w0 l b g m x w) (hv : LIs w0.heap.size l b g m v x w) (h' : LIs w0.heap.size l b g m v' x' w') (hs : Stir (LFoot l b g m v) w w') : LW w0 l b g m x' w' :=
  ⟨⟨v', h'⟩, h.low, h.over, h.below.trans (hs.below (lfoot_low h.low h.over (fun k hk => (hv.1.row.lt k hk).1)) h.below.size)⟩
theorem LW.disk (h : LW w0 l b g m x w) : DiskAt b g m x.disk w := by
  obtain ⟨v, hv⟩ := h.is
  exact hv.1.disk
theorem LW.ok (h : LW w0 l b g m x w) : x.disk.Ok := h.disk.1
theorem LW.turn {s' : DS} (h : LW w0 l b g m x w) (hd : DiskAt b g m s' w') (hs : Stir (Foot b g m) w w') (hl : s'.stay.length = x.disk.stay.length) : LW w0 l b g m { x with disk := s' } w' := by
  obtain ⟨v, hv⟩ := h.is
  exact ⟨⟨v, hv.turn hd hs hl⟩, h.low, h.over, step_below h.below hs h.over h.below.size⟩
theorem LW.append (h : LW w0 l b g m x w) (hm : x.disk.made < 900000000) (r : ByteArray) (hr : r.size ≤ 140737488355328) :
    Calls Tryz.prog 7 #[.pointer (some ⟨l, 0, none⟩), .string r] w fun e w' => e = .returned (.int .i64 (x.appE r)) ∧ LW w0 l b g m (x.app r) w' ∧ LKeep w w' := by
  obtain ⟨v, hv⟩ := h.is
  refine (append_any hv hm h.below.size r hr).mono fun _ _ hh => ?_
  obtain ⟨v', h1, h2, h3⟩ := hh
  exact ⟨h1, h.step hv h2 h3, hv.kept h3⟩
theorem LW.start (h : LW w0 l b g m x w) (hm : x.disk.made < 900000000) (n : Int) (hn : I64 n) :
    Calls Tryz.prog 9 #[.pointer (some ⟨l, 0, none⟩), .int .i64 n] w fun e w' => e = .returned (.int .i64 (x.startE n)) ∧ LW w0 l b g m (x.start n) w' ∧ LKeep w w' := by
  obtain ⟨v, hv⟩ := h.is
  refine (start_any hv hm n hn).mono fun _ _ hh => ?_
  obtain ⟨v', h1, h2, h3⟩ := hh
  exact ⟨h1, h.step hv h2 h3, hv.kept h3⟩
def LS.room (x : LS) : Int := ((64 * halfN x.disk : Nat) : Int) - ((recB x.recs).length : Int)
theorem LW.room (h : LW w0 l b g m x w) :
    Calls Tryz.prog 29 #[.pointer (some ⟨l, 0, none⟩)] w fun e w' => e = .returned (.int .i64 x.room) ∧ LW w0 l b g m x w' ∧ Below w.heap.size w w' := by
  obtain ⟨v, hv⟩ := h.is
  exact (room_any hv.1).mono fun _ _ hh => ⟨hh.1, h.later hh.2, hh.2⟩
theorem LW.gen (h : LW w0 l b g m x w) :
    Calls Tryz.prog 28 #[.pointer (some ⟨l, 0, none⟩)] w fun e w' => e = .returned (.int .i64 x.gen) ∧ w = w' := by
  obtain ⟨v, hv⟩ := h.is
  exact gen_any hv.1
theorem LW.ldead (h : LW w0 l b g m x w) :
    Calls Tryz.prog 31 #[.pointer (some ⟨l, 0, none⟩)] w fun e w' => e = .returned (.bool x.dead) ∧ w = w' := by
  obtain ⟨v, hv⟩ := h.is
  exact ldead_any hv.1
theorem LW.records (h : LW w0 l b g m x w) :
    Calls Tryz.prog 32 #[.pointer (some ⟨l, 0, none⟩)] w fun e w' => ∃ a c, e = .returned (.slice a x.recs.length c) ∧ w'.ownsRow w.heap.size 9 1 (.slice a x.recs.length c) x.recs.length (strVals x.recs) ∧ LW w0 l b g m x w' ∧ Below w.heap.size w w' := by
  obtain ⟨v, hv⟩ := h.is
  refine (records_any hv).mono fun _ _ hh => ?_
  obtain ⟨u, h1, h2, h3⟩ := hh
  obtain ⟨a, c, rfl⟩ := row_shape h2
  exact ⟨a, c, h1, h2, h.later h3, h3⟩
theorem LW.open_ (h : LW w0 l b g m x w) :
    Calls Tryz.prog 19 #[.pointer (some ⟨b, 0, none⟩)] w fun e w' => ∃ p, e = .returned (.tuple #[.pointer p, .int .i64 (openE x.disk)]) ∧ ((openE x.disk = 0 ∧ ∃ t, p = some ⟨t, 0, none⟩ ∧ LW w0 t b g m (openX x.disk) w') ∨ (openE x.disk ≠ 0 ∧ p = none)) ∧ LW w0 l b g m x w' ∧ Below w.heap.size w w' := by
  refine (open_any h.disk).mono fun _ _ hh => ?_
  obtain ⟨a, h1, h2, h3⟩ := hh
  rcases h2 with ⟨e, t, v, rfl, ht, hv⟩ | ⟨e, rfl⟩
  · exact ⟨_, h1, .inl ⟨e, t, rfl, ⟨v, hv.lower h.below.size⟩, Nat.le_trans h.below.size ht, h.over, h.below.trans (h3.mono h.below.size)⟩, h.later h3, h3⟩
  · exact ⟨_, h1, .inr ⟨e, rfl⟩, h.later h3, h3⟩
theorem Laid.lw {r n : Nat} {gen : Int} {a a2 : Value} (h : Laid w0 b g m r n gen a a2 w) (he : formE (fresh (blank n)) gen = 0) : ∃ l q, a = .pointer (some ⟨l, 0, none⟩) ∧ a2 = .pointer (some ⟨q, 0, none⟩) ∧ LW w0 l b g m ⟨gen.toNat, [], false, formD (fresh (blank n)) gen⟩ w := by
  rcases h.log with ⟨_, ⟨l, v, e1, e2, e3⟩, q, f1, _⟩ | ⟨e, _⟩
  · exact ⟨l, q, e1, f1, ⟨v, e3⟩, e2, h.over, h.below⟩
  · exact absurd he e
end
end Go.Proofs.YteboacjniokfpaaGreatDoor

