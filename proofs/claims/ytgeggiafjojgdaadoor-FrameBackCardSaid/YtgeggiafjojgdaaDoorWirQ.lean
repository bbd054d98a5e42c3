/-
  The reference's reader: what each of its methods answers, and how it goes on.
-/
import Derived.Test.YtgeggiafjojgdaaDoorWirI
import Derived.Test.YtgeggiafjojgdaaDoorWirM
import Derived.BigQuiet
import Derived.Deep.QuietTactic
import Derived.BigRegion
import Derived.RegionTactic
namespace Go.Proofs.YtgeggiafjojgdaaDoor
open Go.RowKit Go

/-- the reference's reader, in memory: a text, how far it is read, what ended it -/
def QObj (s : ByteArray) (p : Nat) (e : Int) : Obj := .cells #[.string s, .int .i64 p, .int .i64 e] 41 (0, 0)
/-- it stands where a reader stands -/
structure Stands (s : ByteArray) (p : Nat) (e : Int) (r : Rd) : Prop where
  err : r.err = e
  le : e = 0 → p ≤ s.size
  rest : e = 0 → r.rest = s.data.toList.drop p
section
variable {w : World} {b : Nat} {s : ByteArray} {p : Nat} {e : Int}
theorem QObj.c0 (h : w.heap[b]? = some (QObj s p e)) : w.cell? ⟨b, 0, none⟩ = some (.string s) := by simp [World.cell?, h, QObj]
theorem QObj.c1 (h : w.heap[b]? = some (QObj s p e)) : w.cell? ⟨b, 1, none⟩ = some (.int .i64 p) := by simp [World.cell?, h, QObj]
theorem QObj.c2 (h : w.heap[b]? = some (QObj s p e)) : w.cell? ⟨b, 2, none⟩ = some (.int .i64 e) := by simp [World.cell?, h, QObj]
theorem QObj.fr (h : w.heap[b]? = some (QObj s p e)) (i : Nat) : w.frozen? ⟨b, i, none⟩ = false := by simp [World.frozen?, h, QObj]
theorem Moved.setAt {v : World} (h : Moved b (QObj s p e) w v) (x : Nat) : Moved b (QObj s x e) w (v.setCell ⟨b, 1, none⟩ (.int .i64 x)) := by
  have := Moved.set (i := 1) h (.int .i64 x); simpa [QObj] using this
theorem Moved.setE {v : World} (h : Moved b (QObj s p e) w v) (x : Int) : Moved b (QObj s p x) w (v.setCell ⟨b, 2, none⟩ (.int .i64 x)) := by
  have := Moved.set (i := 2) h (.int .i64 x); simpa [QObj] using this
end
/-- it fails -/
theorem fails_any (b : Nat) (s : ByteArray) (p : Nat) (e x : Int) (w : World) (hb : w.heap[b]? = some (QObj s p e)) :
    Calls Tryd.prog 32 #[.pointer (some ⟨b, 0, none⟩), .int .i64 x] w fun v w' => v = .returned (.int .i64 x) ∧ Moved b (QObj s p x) w w' := by
  have fr := QObj.fr hb
  have c2 := QObj.c2 hb
  have HM := Lib.hid ((Moved.refl hb).setE x)
  go_enter Tryd.func32, Tryd.ntmps32
  go_wp2
  go_ret
  exact ⟨rfl, HM.out⟩

theorem rend_any (b : Nat) (s : ByteArray) (p : Nat) (e : Int) (r : Rd) (hs : Stands s p e r) (w : World) (hb : w.heap[b]? = some (QObj s p e)) :
    Calls Tryd.prog 21 #[.pointer (some ⟨b, 0, none⟩)] w fun v w' => v = .returned (.int .i64 (endR r)) ∧ Below w.heap.size w w' := by
  have c0 := QObj.c0 hb
  have c1 := QObj.c1 hb
  have c2 := QObj.c2 hb
  by_cases he : e = 0
  · subst he
    have hle := hs.le rfl
    by_cases hr : r.rest = []
    · have HR := Lib.hid (show endR r = 0 by unfold endR; rw [if_pos hs.err, if_pos hr])
      have hp : s.size ≤ p := by
        have := hs.rest rfl
        rw [hr] at this
        have := congrArg List.length this
        simp at this; omega
      have hp1 : ¬ (p : Int) < (s.size : Int) := by omega
      clear hr hp hs
      go_enter Tryd.func21, Tryd.ntmps21
      go_wp2_with fail
      go_quiet (fail)
      go_wp2_with fail
      go_ret
      exact ⟨by rw [HR.out]; rfl, ⟨rfl, rfl, rfl, Nat.le_refl _, fun _ _ => rfl⟩⟩
    · have HR := Lib.hid (show endR r = 32 by unfold endR; rw [if_pos hs.err, if_neg hr])
      have hp1 : (p : Int) < (s.size : Int) := by
        have h1 := hs.rest rfl
        have h2 : 0 < r.rest.length := List.length_pos_iff.2 hr
        rw [h1] at h2
        simp at h2; omega
      clear hr hs
      go_enter Tryd.func21, Tryd.ntmps21
      go_wp2_with fail
      go_quiet (fail)
      go_wp2_with fail
      go_ret
      exact ⟨by rw [HR.out]; rfl, ⟨rfl, rfl, rfl, Nat.le_refl _, fun _ _ => rfl⟩⟩
  · have HR := Lib.hid (show endR r = e by unfold endR; rw [if_neg (by rw [hs.err]; exact he)]; exact hs.err)
    have hne : (e != 0) = true := bne_iff_ne.2 he
    clear hs
    go_enter Tryd.func21, Tryd.ntmps21
    go_wp2
    go_ret
    exact ⟨by rw [HR.out]; rfl, Below.refl _ _⟩
end Go.Proofs.YtgeggiafjojgdaaDoor

