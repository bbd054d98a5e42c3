/-
  A log in memory; its small functions; sector 0 is written and synced.
-/
import Derived.Test.YtmbknpipefbelaaNvC
import Derived.Test.YtmbknpipefbelaaNvKeeps
import Derived.Test.YtmbknpipefbelaaDskR
import Derived.Laws.AppendOwnNone
import Derived.Lib.AppendStr
import Derived.Deep.RegionLaw
import Derived.RegionTactic
namespace Go.Proofs.Ytmbknpipefbelaa
open Go.RowKit Go Go.Maps SM

theorem made_write' (s : DS) (n : Int) (x : ByteArray) : (s.write n x).made ≤ s.made + 1 := by
  unfold DS.write
  split
  · split <;> simp [DS.lays, DS.tick, DS.goes]
  · omega
theorem made_sync' (s : DS) : s.sync.made ≤ s.made + 1 := by
  unfold DS.sync
  split
  · omega
  · split <;> simp [DS.tick, DS.goes, DS.settled]
theorem len_write (s : DS) (n : Int) (x : ByteArray) : (s.write n x).stay.length = s.stay.length := by
  unfold DS.write
  split
  · split <;> simp [DS.lays, DS.tick, DS.goes, length_laid]
  · rfl
theorem len_sync (s : DS) : s.sync.stay.length = s.stay.length := by
  unfold DS.sync
  split
  · rfl
  · split <;> simp [DS.tick, DS.goes, DS.settled, length_laid]

def LObj (b gen : Nat) (v : Value) (dead : Bool) : Obj := .cells #[.pointer (some ⟨b, 0, none⟩), .int .i64 gen, v, .bool dead] 61 (0, 0)
section
variable {l b gen : Nat} {v : Value} {dead : Bool} {w : World}
theorem LObj.c0 (h : w.heap[l]? = some (LObj b gen v dead)) : w.cell? ⟨l, 0, none⟩ = some (.pointer (some ⟨b, 0, none⟩)) := by simp [World.cell?, h, LObj]
theorem LObj.c1 (h : w.heap[l]? = some (LObj b gen v dead)) : w.cell? ⟨l, 1, none⟩ = some (.int .i64 gen) := by simp [World.cell?, h, LObj]
theorem LObj.c2 (h : w.heap[l]? = some (LObj b gen v dead)) : w.cell? ⟨l, 2, none⟩ = some v := by simp [World.cell?, h, LObj]
theorem LObj.c3 (h : w.heap[l]? = some (LObj b gen v dead)) : w.cell? ⟨l, 3, none⟩ = some (.bool dead) := by simp [World.cell?, h, LObj]
theorem LObj.fr (h : w.heap[l]? = some (LObj b gen v dead)) (i : Nat) : w.frozen? ⟨l, i, none⟩ = false := by simp [World.frozen?, h, LObj]
end
/-- a log in memory: its object, the row of its bytes, its disk -/
structure LogAt (base l b g m : Nat) (v : Value) (gen : Nat) (B : List UInt8) (dead : Bool) (s : DS) (w : World) : Prop where
  obj : w.heap[l]? = some (LObj b gen v dead)
  row : w.ownsRow base 5 1 v B.length (u8c B)
  disk : DiskAt b g m s w
  far : v.ownBlock ≠ some g
  le : B.length ≤ 64 * halfN s
  gle : gen ≤ 1099511627776
def LFoot (l b g m : Nat) (v : Value) : Nat → Prop := fun k => k = l ∨ Foot b g m k ∨ v.ownBlock = some k
section
variable {base l b g m gen : Nat} {v : Value} {B : List UInt8} {dead : Bool} {s : DS} {w w' : World}
theorem LogAt.stay {F : Nat → Prop} (h : LogAt base l b g m v gen B dead s w) (k : Stir F w w') (hn : ∀ i, LFoot l b g m v i → ¬ F i) : LogAt base l b g m v gen B dead s w' :=
  ⟨k.keep h.obj (hn _ (.inl rfl)), owns_stay h.row k (fun _ hi => hn _ (.inr (.inr hi))), h.disk.stay k (fun _ hi => hn _ (.inr (.inl hi))), h.far, h.le, h.gle⟩
theorem LogAt.below (h : LogAt base l b g m v gen B dead s w) (k : Below w.heap.size w w') : LogAt base l b g m v gen B dead s w' := h.stay (Stir.of_below (F := fun _ => False) k) (fun _ _ h => h)
theorem LogAt.not_cells (h : LogAt base l b g m v gen B dead s w) {k : Nat} {C : Array Value} {e : TypeId} {f : Nat × Nat} (hk : w.heap[k]? = some (.cells C e f)) (h1 : e ≠ 68) (h2 : e ≠ 5) (h3 : e ≠ 61) : ¬ LFoot l b g m v k := by
  rintro (rfl | hf | hf)
  · rw [h.obj] at hk
    simp [LObj] at hk
    exact h3 hk.2.1.symm
  · exact h.disk.not_cells hk h1 h2 hf
  · obtain ⟨C', hC⟩ := owns_block h.row hf
    rw [hC] at hk
    simp at hk
    exact h2 hk.2.1.symm
/-- the disk does something: the log's object and its bytes stay -/
theorem LogAt.log_not_disk (h : LogAt base l b g m v gen B dead s w) : ¬ Foot b g m l := h.disk.not_cells h.obj (by decide) (by decide)
theorem LogAt.row_not_disk (h : LogAt base l b g m v gen B dead s w) {k : Nat} (hk : v.ownBlock = some k) : ¬ Foot b g m k := by
  obtain ⟨C, hC⟩ := owns_block h.row hk
  obtain ⟨⟨C1, f1, e1⟩, ⟨C2, f2, e2⟩, ⟨es, c, e3⟩⟩ := h.disk.kinds
  rintro (rfl | rfl | rfl)
  · rw [hC] at e1; simp at e1
  · exact h.far hk
  · rw [hC] at e3; cases e3
theorem LogAt.turn {s' : DS} (h : LogAt base l b g m v gen B dead s w) (hd : DiskAt b g m s' w') (hs : Stir (Foot b g m) w w') (hl : s'.stay.length = s.stay.length) : LogAt base l b g m v gen B dead s' w' :=
  ⟨hs.keep h.obj h.log_not_disk, owns_stay h.row hs (fun k hk => h.row_not_disk hk), hd, h.far, by have := h.le; unfold halfN at *; rw [hl]; exact this, h.gle⟩
theorem LogAt.len (h : LogAt base l b g m v gen B dead s w) : B.length ≤ 524288 := by
  have := h.le
  have := h.disk.1.le
  unfold halfN at *; omega

theorem gen_any (h : LogAt base l b g m v gen B dead s w) :
    Calls Try.prog 18 #[.pointer (some ⟨l, 0, none⟩)] w fun e w' => e = .returned (.int .i64 gen) ∧ w = w' := by
  have c1 := LObj.c1 h.obj
  clear h
  go_enter Try.func18, Try.ntmps18
  go_wp2
  go_ret
  exact ⟨rfl, rfl⟩
theorem ldead_any (h : LogAt base l b g m v gen B dead s w) :
    Calls Try.prog 27 #[.pointer (some ⟨l, 0, none⟩)] w fun e w' => e = .returned (.bool dead) ∧ w = w' := by
  have c3 := LObj.c3 h.obj
  clear h
  go_enter Try.func27, Try.ntmps27
  go_wp2
  go_ret
  exact ⟨rfl, rfl⟩
theorem note_any (h : LogAt base l b g m v gen B dead s w) (e : Int) :
    Calls Try.prog 34 #[.pointer (some ⟨l, 0, none⟩), .int .i64 e] w fun r w' => r = .returned (.int .i64 e) ∧ LogAt base l b g m v gen B (e == 2) s w' ∧ Stir (· = l) w w' := by
  have f3 := LObj.fr h.obj 3
  have c3 := LObj.c3 h.obj
  have hs : Stir (· = l) w (w.setCell ⟨l, 3, none⟩ (.bool (e == 2))) := (Stir.refl (· = l) w).set (.inl rfl) _
  have hl : LogAt base l b g m v gen B (e == 2) s (w.setCell ⟨l, 3, none⟩ (.bool (e == 2))) := by
    refine ⟨?_, owns_stay h.row hs (fun k hk e => ?_), h.disk.stay hs (fun i hi e => h.log_not_disk (e ▸ hi)), h.far, h.le, h.gle⟩
    · rw [heap_set h.obj]; simp [LObj]
    · obtain ⟨C, hC⟩ := owns_block h.row hk
      rw [e, h.obj] at hC
      simp [LObj] at hC
  have HL := Lib.hid hl
  have HS := Lib.hid hs
  clear h hl hs
  obtain ⟨q, hq⟩ : ∃ q, (e == 2) = q := ⟨_, rfl⟩
  rw [hq] at HL HS ⊢
  go_enter Try.func34, Try.ntmps34
  go_wp2
  go_ret
  exact ⟨rfl, HL.out, HS.out⟩

set_option maxRecDepth 100000 in
theorem say_any {gen used : Nat} (h : DiskAt b g m s w) (hm : s.made < 1000000000) (hg : gen ≤ 9223372036854775807) (hu : used ≤ 9223372036854775807) :
    Calls Try.prog 35 #[.pointer (some ⟨b, 0, none⟩), .int .i64 gen, .int .i64 used] w fun e w' => e = .returned (.int .i64 (heads gen used s).1) ∧ DiskAt b g m (heads gen used s).2 w' ∧ Stir (Foot b g m) w w' := by
  have C1 := fun w => first_any gen used hg hu w
  have hh : heads gen used s = if s.writeE 0 (headB gen used) = 0 then ((s.write 0 (headB gen used)).syncE, (s.write 0 (headB gen used)).sync) else (s.writeE 0 (headB gen used), s.write 0 (headB gen used)) := by
    unfold heads put puts puts
    rw [secB_head]
    simp only [Nat.zero_add, Int.natCast_zero]
    by_cases e : s.writeE 0 (headB gen used) = 0
    · simp [e]
    · simp [e]
  rw [hh]
  clear hh
  have C2 := fun w (h : DiskAt b g m s w) => write_any h (by omega) 0 ⟨by decide, by decide⟩ (headB gen used)
  have hm2 := made_write' s 0 (headB gen used)
  generalize headB gen used = X at *
  have C3 := fun w (h : DiskAt b g m (s.write 0 X) w) => sync_any h (by omega)
  have HH := Lib.hid h
  by_cases e : s.writeE 0 X = 0
  · rw [if_pos e]
    rw [e] at C2
    clear h
    go_enter Try.func35, Try.ntmps35
    go_wp2_with fail
    refine (C1 _).mono ?_
    rintro e w1 ⟨rfl, hB1⟩
    have H1 := Lib.hid (HH.out.below hB1)
    have S1 := Lib.hid (Stir.of_below (F := Foot b g m) hB1)
    clear hB1
    go_wp2_with fail
    refine (C2 _ H1.out).mono ?_
    rintro e w2 ⟨rfl, h2, s2⟩
    have H2 := Lib.hid h2
    have S2 := Lib.hid (S1.out.trans s2 (fun i e => .inl e))
    clear h2 s2
    go_wp2_with fail
    refine (C3 _ H2.out).mono ?_
    rintro e w3 ⟨rfl, h3, s3⟩
    have H3 := Lib.hid h3
    have S3 := Lib.hid (S2.out.trans s3 (fun i e => .inl e))
    clear h3 s3
    go_wp2
    go_ret
    exact ⟨rfl, H3.out, S3.out⟩
  · rw [if_neg e]
    have hne : (s.writeE 0 X != 0) = true := by simpa using e
    generalize s.writeE 0 X = E at *
    clear h
    go_enter Try.func35, Try.ntmps35
    go_wp2_with fail
    refine (C1 _).mono ?_
    rintro e w1 ⟨rfl, hB1⟩
    have H1 := Lib.hid (HH.out.below hB1)
    have S1 := Lib.hid (Stir.of_below (F := Foot b g m) hB1)
    clear hB1
    go_wp2_with fail
    refine (C2 _ H1.out).mono ?_
    rintro e w2 ⟨rfl, h2, s2⟩
    have H2 := Lib.hid h2
    have S2 := Lib.hid (S1.out.trans s2 (fun i e => .inl e))
    clear h2 s2
    go_wp2
    go_ret
    exact ⟨rfl, H2.out, S2.out⟩
end
end Go.Proofs.Ytmbknpipefbelaa
