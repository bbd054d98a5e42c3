/-
  A disk's small functions: Sectors, find, isBad, sector, lastStep, disarm, Image, Loose, Steps, Dead.
-/
import Derived.Test.YtmbknpipefbelaaDskW
import Derived.Deep.QuietTactic
import Derived.BigQuiet
namespace Go.Proofs.Ytmbknpipefbelaa
open Go.RowKit Go Go.Maps SM

section
variable {b g cap m : Nat} {B : ByteArray} {a : Int} {s : DS} {cur : Array Value} {D : DataW Unit} {w : World}

theorem sectors_obj (h : w.heap[b]? = some (DObj g cap m B a s)) (hle : s.stay.length ≤ 16384) :
    Calls Try.prog 38 #[.pointer (some ⟨b, 0, none⟩)] w fun e w' => e = .returned (.int .i64 s.stay.length) ∧ w = w' := by
  have c0 := DObj.c0 h
  generalize s.stay.length = N at c0 hle ⊢
  clear h
  go_enter Try.func38, Try.ntmps38
  go_wp2
  go_ret
  exact ⟨rfl, rfl⟩

theorem sectors_at (h : DAt b g cap m B a s cur D w) (hk : s.Ok) :
    Calls Try.prog 38 #[.pointer (some ⟨b, 0, none⟩)] w fun e w' => e = .returned (.int .i64 s.stay.length) ∧ w = w' := sectors_obj h.obj hk.le

theorem find_at (h : DAt b g cap m B a s cur D w) (hk : s.Ok) (n : Int) (hn : I64 n) :
    Calls Try.prog 59 #[.pointer (some ⟨b, 0, none⟩), .int .i64 n] w fun e w' => e = .returned (.int .i64 (s.may n)) ∧ w = w' := by
  have C := fun w (h : DAt b g cap m B a s cur D w) => sectors_at h hk
  have c6 := DObj.c6 h.obj
  have HH := Lib.hid h
  have hle := hk.le
  unfold DS.may
  obtain ⟨h1, h2⟩ := hn
  generalize s.stay.length = N at C hle ⊢
  cases hd : s.dead with
  | true =>
    rw [hd] at c6
    clear h hk hd
    go_enter Try.func59, Try.ntmps59
    go_wp2
    go_ret
    exact ⟨rfl, rfl⟩
  | false =>
    rw [hd] at c6
    clear h hk hd
    by_cases h0 : n < 0
    · go_enter Try.func59, Try.ntmps59
      go_wp2
      go_ret
      exact ⟨by simp, rfl⟩
    · by_cases h3 : (N : Int) ≤ n
      · go_enter Try.func59, Try.ntmps59
        go_wp2_with fail
        refine (C _ HH.out).mono ?_
        rintro e w' ⟨rfl, rfl⟩
        go_wp2
        go_ret
        exact ⟨by simp, rfl⟩
      · go_enter Try.func59, Try.ntmps59
        go_wp2_with fail
        refine (C _ HH.out).mono ?_
        rintro e w' ⟨rfl, rfl⟩
        go_wp2
        go_ret
        exact ⟨by simp, rfl⟩

theorem isBad_at (h : DAt b g cap m B a s cur D w) (n : Int) (hn : I64 n) :
    Calls Try.prog 60 #[.pointer (some ⟨b, 0, none⟩), .int .i64 n] w fun e w' => e = .returned (.bool (s.bad n)) ∧ w = w' := by
  have c2 := DObj.c2 h.obj
  have hs := h.size
  have C := fun w => has_any B n w (by omega) hn.1 hn.2
  rw [h.bads n] at C
  clear h hs
  go_enter Try.func60, Try.ntmps60
  go_wp2_with fail
  refine (C _).mono ?_
  rintro e w' ⟨rfl, rfl⟩
  go_wp2
  go_ret
  exact ⟨rfl, rfl⟩

theorem sector_obj (ho : w.heap[b]? = some (DObj g cap m B a s)) (hk : s.Ok) (hc : 64 * s.stay.length ≤ cap) (_hm : cap ≤ maxLen) (n : Nat) (hn : n < s.stay.length) :
    Calls Try.prog 61 #[.pointer (some ⟨b, 0, none⟩), .int .i64 n] w fun e w' => e = .returned (.slice (some ⟨g, 64 * n, none⟩) 64 (cap - 64 * n)) ∧ w = w' := by
  have c0 := DObj.c0 ho
  have hle := hk.le
  generalize s.stay.length = N at c0 hle hc hn ⊢
  clear ho hk
  go_enter Try.func61, Try.ntmps61
  go_wp2
  go_ret
  refine ⟨?_, rfl⟩
  show Ending.returned (Value.slice (some ⟨g, n * 64, none⟩) ((n + 1) * 64 - n * 64) (cap - n * 64)) = _
  rw [show (n + 1) * 64 - n * 64 = 64 by omega, Nat.mul_comm n 64]
theorem DAt.cap_le (h : DAt b g cap m B a s cur D w) (hk : s.Ok) : 64 * s.stay.length ≤ cap := by have := h.row.le; rw [length_flat hk.sz] at this; exact this
theorem sector_at (h : DAt b g cap m B a s cur D w) (hk : s.Ok) (n : Nat) (hn : n < s.stay.length) :
    Calls Try.prog 61 #[.pointer (some ⟨b, 0, none⟩), .int .i64 n] w fun e w' => e = .returned (.slice (some ⟨g, 64 * n, none⟩) 64 (cap - 64 * n)) ∧ w = w' :=
  sector_obj h.obj hk (h.cap_le hk) h.row.max n hn

theorem image_at (h : DAt b g cap m B a s cur D w) (hk : s.Ok) :
    Calls Try.prog 26 #[.pointer (some ⟨b, 0, none⟩)] w fun e w' => e = .returned (.string (img s.stay)) ∧ w = w' := by
  have c0 := DObj.c0 h.obj
  have hc := h.row.conv (o := 0) (n := 64 * s.stay.length) (c := cap) (by rw [length_flat hk.sz]; omega)
  rw [List.drop_zero, List.take_of_length_le (by rw [length_flat hk.sz]; exact Nat.le_refl _)] at hc
  change _ = Result.ok (Value.string (img s.stay)) w at hc
  generalize 64 * s.stay.length = N at c0 hc ⊢
  generalize img s.stay = I at hc ⊢
  clear h hk
  go_enter Try.func26, Try.ntmps26
  go_wp2
  go_ret
  exact ⟨rfl, rfl⟩

theorem steps_obj (h : w.heap[b]? = some (DObj g cap m B a s)) :
    Calls Try.prog 23 #[.pointer (some ⟨b, 0, none⟩)] w fun e w' => e = .returned (.int .i64 s.made) ∧ w = w' := by
  have c3 := DObj.c3 h
  clear h
  go_enter Try.func23, Try.ntmps23
  go_wp2
  go_ret
  exact ⟨rfl, rfl⟩

theorem steps_at (h : DAt b g cap m B a s cur D w) :
    Calls Try.prog 23 #[.pointer (some ⟨b, 0, none⟩)] w fun e w' => e = .returned (.int .i64 s.made) ∧ w = w' := steps_obj h.obj

theorem dead_obj (h : w.heap[b]? = some (DObj g cap m B a s)) :
    Calls Try.prog 13 #[.pointer (some ⟨b, 0, none⟩)] w fun e w' => e = .returned (.bool s.dead) ∧ w = w' := by
  have c6 := DObj.c6 h
  clear h
  go_enter Try.func13, Try.ntmps13
  go_wp2
  go_ret
  exact ⟨rfl, rfl⟩

theorem dead_at (h : DAt b g cap m B a s cur D w) :
    Calls Try.prog 13 #[.pointer (some ⟨b, 0, none⟩)] w fun e w' => e = .returned (.bool s.dead) ∧ w = w' := dead_obj h.obj

/-- nothing is armed -/
def DS.calm (s : DS) : DS := { s with armed := 0, keep := none0 }
theorem DS.calm_armZ (s : DS) : s.calm.armZ = 0 := rfl
theorem disarm_at (h : DAt b g cap m B a s cur D w) :
    Calls Try.prog 36 #[.pointer (some ⟨b, 0, none⟩)] w fun e w' => e = .returned (.tuple #[]) ∧ DAt b g cap m B 0 s.calm cur D w' ∧ Stir (· = b) w w' := by
  have X : DAt b g cap m B 0 s.calm cur D ((w.setCell ⟨b, 4, none⟩ (.int .i64 0)).setCell ⟨b, 5, none⟩ (.string ⟨#[]⟩)) ∧ Stir (· = b) w ((w.setCell ⟨b, 4, none⟩ (.int .i64 0)).setCell ⟨b, 5, none⟩ (.string ⟨#[]⟩)) := by
    refine ⟨(DAt.cell (s' := s) (a' := 0) (B' := B) h 4 _ rfl rfl h.size h.bads ?_).cell 5 _ rfl rfl h.size h.bads ?_, ((Stir.refl (· = b) w).set (.inl rfl) _).set (.inl rfl) _⟩
    · rw [heap_set h.obj]; simp [DObj]
    · rw [heap_set (heap_set h.obj _)]; simp [DObj, DS.calm, none0]
  have HX := Lib.hid X
  have f4 := DObj.fr h.obj 4
  have f5 := DObj.fr h.obj 5
  have c4 := DObj.c4 h.obj
  have c5 := DObj.c5 h.obj
  clear h X
  go_enter Try.func36, Try.ntmps36
  go_wp2
  go_end0
  exact ⟨rfl, HX.out⟩

theorem lastStep_at (h : DAt b g cap m B a s cur D w) (ha : a = s.armZ) (hk : s.armed ≤ 9223372036854775807) (hm : s.made < 1099511627776) :
    Calls Try.prog 72 #[.pointer (some ⟨b, 0, none⟩)] w fun e w' => e = .returned (.bool (s.armed == 1)) ∧ DAt b g cap m B a s.tick cur D w' ∧ Stir (· = b) w w' := by
  have c3 := DObj.c3 h.obj
  have f3 := DObj.fr h.obj 3
  have e1 : (((s.made : Int) + 1) == a) = (s.armed == 1) := by
    have := DS.armZ_is hk hm
    rw [← ha] at this
    by_cases e : s.armed = 1
    · rw [beq_iff_eq.2 e, beq_iff_eq.2 (this.2 e)]
    · rw [beq_eq_false_iff_ne.2 e, beq_eq_false_iff_ne.2 (fun x => e (this.1 x))]
  have X : DAt b g cap m B a s.tick cur D (w.setCell ⟨b, 3, none⟩ (.int .i64 ((s.made : Int) + 1))) ∧ Stir (· = b) w (w.setCell ⟨b, 3, none⟩ (.int .i64 ((s.made : Int) + 1))) := by
    refine ⟨DAt.cell (s' := s.tick) (a' := a) (B' := B) h 3 _ rfl rfl h.size h.bads ?_, (Stir.refl (· = b) w).set (.inl rfl) _⟩
    rw [heap_set h.obj]
    simp [DObj, DS.tick]
  have HX := Lib.hid X
  have E1 := Lib.hid e1
  have c3' : ∀ x : Value, (w.setCell ⟨b, 3, none⟩ x).cell? ⟨b, 3, none⟩ = some x := fun x => by
    have := heap_set h.obj (i := 3) x
    simp [World.cell?, this]
  have c4' : ∀ x : Value, (w.setCell ⟨b, 3, none⟩ x).cell? ⟨b, 4, none⟩ = some (.int .i64 a) := fun x => by
    have := heap_set h.obj (i := 3) x
    simp [World.cell?, this]
  generalize hM : s.made = M at *
  clear h X hk e1 ha
  go_enter Try.func72, Try.ntmps72
  go_wp2
  go_region
  all_goals (go_wp2; go_ret; exact ⟨ret_bool E1.out, HX.out.1.drewN 1, HX.out.2.drewN 1⟩)
end
end Go.Proofs.Ytmbknpipefbelaa
