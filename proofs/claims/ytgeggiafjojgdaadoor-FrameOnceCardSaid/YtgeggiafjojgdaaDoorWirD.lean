/-
  A reader: what each of its methods answers, and how it goes on.
-/
import Derived.Test.YtgeggiafjojgdaaDoorWirC
import Derived.Test.YtgeggiafjojgdaaDoorKitW
import Derived.Deep.Draws
import Derived.SizedLaws
namespace Go.Proofs.YtgeggiafjojgdaaDoor
open Go.RowKit Go

/-- block b holds o now; the other blocks that were there are as they were -/
structure Moved (b : Nat) (o : Obj) (w w' : World) : Prop where
  os : w'.os = w.os
  tape : w'.tape = w.tape
  output : w'.output = w.output
  size : w.heap.size ≤ w'.heap.size
  here : w'.heap[b]? = some o
  block : ∀ k, k < w.heap.size → k ≠ b → w'.heap[k]? = w.heap[k]?

theorem Moved.refl {b : Nat} {o : Obj} {w : World} (h : w.heap[b]? = some o) : Moved b o w w := ⟨rfl, rfl, rfl, Nat.le_refl _, h, fun _ _ _ => rfl⟩
theorem Moved.trans {b : Nat} {o o' : Obj} {w v u : World} (h : Moved b o w v) (k : Moved b o' v u) : Moved b o' w u :=
  ⟨k.os.trans h.os, k.tape.trans h.tape, k.output.trans h.output, Nat.le_trans h.size k.size, k.here, fun i hi hb => (k.block i (Nat.lt_of_lt_of_le hi h.size) hb).trans (h.block i hi hb)⟩
theorem Moved.drew {b : Nat} {o : Obj} {w v : World} (h : Moved b o w v) : Moved b o w v.drew := ⟨h.os, h.tape, h.output, h.size, h.here, h.block⟩
theorem Moved.drewN {b n : Nat} {o : Obj} {w v : World} (h : Moved b o w v) : Moved b o w (v.drewN n) := ⟨h.os, h.tape, h.output, h.size, h.here, h.block⟩
theorem Moved.and {b : Nat} {o : Obj} {w v u : World} (h : Moved b o w v) (k : Below v.heap.size v u) : Moved b o w u :=
  ⟨k.os.trans h.os, k.tape.trans h.tape, k.output.trans h.output, Nat.le_trans h.size k.size, (k.block b (lt_of_heap h.here)).trans h.here, fun i hi hb => (k.block i (Nat.lt_of_lt_of_le hi h.size)).trans (h.block i hi hb)⟩
theorem Moved.set {b i : Nat} {C : Array Value} {t : TypeId} {f : Nat × Nat} {w v : World} (h : Moved b (.cells C t f) w v) (u : Value) :
    Moved b (.cells (C.setIfInBounds i u) t f) w (v.setCell ⟨b, i, none⟩ u) := by
  refine ⟨h.os, h.tape, h.output, ?_, ?_, fun k hl hk => ?_⟩
  · simpa [World.setCell] using h.size
  · simp [World.setCell, Array.getElem?_modify, h.here]
  · rw [Below.heap_setCell _ _ _ _ hk, h.block k hl hk]
theorem Moved.below {b B : Nat} {o : Obj} {w v : World} (h : Moved b o w v) (hb : B ≤ b) (hB : B ≤ w.heap.size) : Below B w v :=
  ⟨h.os, h.tape, h.output, h.size, fun k hk => h.block k (by omega) (by omega)⟩
theorem Moved.other {b c : Nat} {o x : Obj} {w v : World} (h : Moved b o w v) (hc : w.heap[c]? = some x) (hn : c ≠ b) : v.heap[c]? = some x :=
  (h.block c (lt_of_heap hc) hn).trans hc
theorem GE.moved {w w' : World} {b : Nat} {o : Obj} (h : GE w) (m : Moved b o w w') (hb : b ≠ 0) : GE w' := by
  unfold GE; rw [World.cell?_of_block (w := w) (m.block 0 h.lt (Ne.symm hb))]; exact h

/-- a reader, in memory -/
def RObj (s : ByteArray) (e : Int) : Obj := .cells #[.string s, errV e] 67 (0, 0)
section
variable {w : World} {b : Nat} {s : ByteArray} {e : Int}
theorem RObj.c0 (h : w.heap[b]? = some (RObj s e)) : w.cell? ⟨b, 0, none⟩ = some (.string s) := by simp [World.cell?, h, RObj]
theorem RObj.c1 (h : w.heap[b]? = some (RObj s e)) : w.cell? ⟨b, 1, none⟩ = some (errV e) := by simp [World.cell?, h, RObj]
theorem RObj.fr (h : w.heap[b]? = some (RObj s e)) (i : Nat) : w.frozen? ⟨b, i, none⟩ = false := by simp [World.frozen?, h, RObj]
theorem Moved.set0 {v : World} (h : Moved b (RObj s e) w v) (x : ByteArray) : Moved b (RObj x e) w (v.setCell ⟨b, 0, none⟩ (.string x)) := by
  have := Moved.set (i := 0) h (.string x); simpa [RObj] using this
theorem Moved.set1 {v : World} (h : Moved b (RObj s e) w v) (x : Int) : Moved b (RObj s x) w (v.setCell ⟨b, 1, none⟩ (errV x)) := by
  have := Moved.set (i := 1) h (errV x); simpa [RObj] using this
end
theorem errV_zero : errV 0 = .nilIface := rfl
theorem errV_ne {e : Int} (h : e ≠ 0) : errV e = flt e := if_neg h

theorem extract_take (s : ByteArray) (k : Nat) : (s.extract 0 k).data.toList = s.data.toList.take k := by
  rw [Lib.extract_data, List.drop_zero, Nat.sub_zero]
theorem extract_drop (s : ByteArray) (k : Nat) : (s.extract k s.size).data.toList = s.data.toList.drop k := by
  rw [Lib.extract_data, List.take_of_length_le (by simp)]
theorem rnew_any (s : ByteArray) (w : World) : Calls Tryd.prog 28 #[.string s] w fun e w' => ∃ b, e = .returned (.pointer (some ⟨b, 0, none⟩)) ∧ w.heap.size ≤ b ∧ w'.heap[b]? = some (RObj s 0) ∧ Below w.heap.size w w' := by
  go_enter Tryd.func28, Tryd.ntmps28
  go_wp2
  go_ret
  exact ⟨w.heap.size, rfl, Nat.le_refl _, heap_alloc_new _ _, (Below.refl _ _).alloc (Nat.le_refl _) _⟩

/-- the reader's rest as a text, and its error -/
def RO (r : Rd) : Obj := RObj (bs r.rest) r.err

set_option maxRecDepth 100000 in
set_option maxHeartbeats 1000000 in
theorem rnum_raw (b : Nat) (s : ByteArray) (e : Int) (most : Int) (hs : s.size ≤ 281474976710656) (w : World) (hb : w.heap[b]? = some (RObj s e)) :
    Calls Tryd.prog 41 #[.pointer (some ⟨b, 0, none⟩), .int .i64 most] w fun v w' => v = .returned (.int .i64 (numR ⟨s.data.toList, e⟩ most).1) ∧ Moved b (RO (numR ⟨s.data.toList, e⟩ most).2) w w' := by
  have c0 := RObj.c0 hb
  have c1 := RObj.c1 hb
  have fr := RObj.fr hb
  have HM := Moved.refl hb
  by_cases he : e = 0
  · subst he
    rw [errV_zero] at c1
    cases hsc : scan s.data.toList with
    | fin =>
      have HR := Lib.hid (numR_fin (r := ⟨s.data.toList, 0⟩) (m := most) rfl hsc)
      have HC := Lib.hid hsc
      clear hsc
      go_enter Tryd.func41, Tryd.ntmps41
      go_wp2_with fail
      refine (first_any s hs _).mono ?_
      rintro e w1 ⟨rfl, hB⟩
      rw [HC.out]
      have hM1 := HM.and hB
      have fr1 := RObj.fr hM1.here
      have c01 := RObj.c0 hM1.here
      have c11 := RObj.c1 hM1.here
      have HM2 := Lib.hid (hM1.set1 32)
      clear HM hB hM1 c0 c1 fr
      unfold firstV
      go_wp2
      go_ret
      rw [HR.out]
      exact ⟨rfl, HM2.out⟩
    | form =>
      have HR := Lib.hid (numR_form (r := ⟨s.data.toList, 0⟩) (m := most) rfl hsc)
      have HC := Lib.hid hsc
      clear hsc
      go_enter Tryd.func41, Tryd.ntmps41
      go_wp2_with fail
      refine (first_any s hs _).mono ?_
      rintro e w1 ⟨rfl, hB⟩
      rw [HC.out]
      have hM1 := HM.and hB
      have fr1 := RObj.fr hM1.here
      have c01 := RObj.c0 hM1.here
      have c11 := RObj.c1 hM1.here
      have HM2 := Lib.hid (hM1.set1 30)
      clear HM hB hM1 c0 c1 fr
      unfold firstV
      go_wp2
      go_ret
      rw [HR.out]
      exact ⟨rfl, HM2.out⟩
    | num n z =>
      obtain ⟨-, -, -, hzl, hn63⟩ := scan_only hsc
      have hzs : z ≤ s.size := by simpa using hzl
      have hni : (n : Int) ≤ 9223372036854775807 := by omega
      clear hn63
      by_cases hok : (n : Int) ≤ most ∧ n ≤ top
      · have HR := Lib.hid (numR_ok (r := ⟨s.data.toList, 0⟩) (m := most) rfl hsc hok.1 hok.2)
        obtain ⟨ok1, ok2⟩ := hok
        have hx := Lib.hid (show bs (s.data.toList.drop z) = s.extract z s.size by rw [← extract_drop]; rfl)
        obtain ⟨mm, hmm⟩ : ∃ mm : Int, (if (4611686018427387903 : Int) < most then 4611686018427387903 else most) = mm := ⟨_, rfl⟩
        have ok3 : (n : Int) ≤ mm := by rw [← hmm]; unfold top at ok2; split <;> omega
        clear ok1
        have hz1 : (z : Int) ≤ (s.size : Int) := by omega
        clear ok2 hzl
        have HC := Lib.hid hsc
        clear hsc
        go_enter Tryd.func41, Tryd.ntmps41
        go_wp2_with fail
        refine (first_any s hs _).mono ?_
        rintro e w1 ⟨rfl, hB⟩
        rw [HC.out]
        have hM1 := HM.and hB
        have fr1 := RObj.fr hM1.here
        have c01 := RObj.c0 hM1.here
        have c11 := RObj.c1 hM1.here
        have HM2 := Lib.hid (hM1.set0 (s.extract z s.size))
        clear HM hB hM1 c0 c1 fr
        unfold firstV
        go_wp2
        go_ret
        rw [HR.out]
        exact ⟨rfl, by unfold RO; rw [hx.out]; exact HM2.out⟩
      · have HR := Lib.hid (numR_over (r := ⟨s.data.toList, 0⟩) (m := most) rfl hsc hok)
        have ok1 : ¬ ((n : Int) ≤ most ∧ (n : Int) ≤ 4611686018427387903) := fun h => hok ⟨h.1, by unfold top; omega⟩
        obtain ⟨mm, hmm⟩ : ∃ mm : Int, (if (4611686018427387903 : Int) < most then 4611686018427387903 else most) = mm := ⟨_, rfl⟩
        have ok3 : mm < (n : Int) := by
          rw [← hmm]
          split <;> omega
        clear hok hzl ok1
        have HC := Lib.hid hsc
        clear hsc
        go_enter Tryd.func41, Tryd.ntmps41
        go_wp2_with fail
        refine (first_any s hs _).mono ?_
        rintro e w1 ⟨rfl, hB⟩
        rw [HC.out]
        have hM1 := HM.and hB
        have fr1 := RObj.fr hM1.here
        have c01 := RObj.c0 hM1.here
        have c11 := RObj.c1 hM1.here
        have HM2 := Lib.hid (hM1.set1 31)
        clear HM hB hM1 c0 c1 fr
        unfold firstV
        go_wp2
        go_ret
        rw [HR.out]
        exact ⟨rfl, HM2.out⟩
  · have HR := Lib.hid (numR_err (r := ⟨s.data.toList, e⟩) he most)
    rw [errV_ne he] at c1
    clear he
    go_enter Tryd.func41, Tryd.ntmps41
    go_wp2
    go_ret
    rw [HR.out]
    exact ⟨rfl, HM⟩
end Go.Proofs.YtgeggiafjojgdaaDoor

