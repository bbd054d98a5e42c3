/-
  A law's map with its calls: each leaves such a one.
-/
import Derived.Test.YteboacjniokfpaaDoorPlnF
import Derived.OwnWalk
namespace Go.Proofs.YteboacjniokfpaaDoor
open Go.ChangeShapes Go.WideShapes Go.ChangeAt Go.RowKit Go SM PL

structure ML (w0 : World) (q n : Nat) (f : Nat → List UInt8) (w : World) : Prop where
  at_ : MapAt q n f w
  low : w0.heap.size ≤ q
  below : Below w0.heap.size w0 w
section
variable {w0 w w' : World} {q n : Nat} {f g : Nat → List UInt8}
theorem ML.later (h : ML w0 q n f w) (k : Below w.heap.size w w') : ML w0 q n f w' := ⟨h.at_.below k, h.low, h.below.trans (k.mono h.below.size)⟩
theorem ML.step (h : ML w0 q n f w) (k : MapAt q n g w') (s : Stir (· = q) w w') : ML w0 q n g w' := ⟨k, h.low, h.below.trans (s.below (fun _ e => by rw [e]; exact h.low) h.below.size)⟩
theorem ML.ok (h : ML w0 q n f w) : Ok n f := h.at_.ok
theorem ml_new (n : Nat) (h1 : 8 ≤ n) (h2 : n ≤ 300) (w0 w : World) (hB : Below w0.heap.size w0 w) :
    Calls Tryd.prog 9 #[.int .i64 n] w fun e w' => ∃ q, e = .returned (.tuple #[.pointer (some ⟨q, 0, none⟩), .int .i64 0]) ∧ ML w0 q n (fun _ => []) w' :=
  (new_yes n h1 (by omega) w).mono fun _ _ h => ⟨_, h.1, h.2.1, hB.size, hB.trans (h.2.2.mono hB.size)⟩
theorem ML.put (h : ML w0 q n f w) (p : Int) (h1 : -9223372036854775808 ≤ p) (h2 : p ≤ 9223372036854775807) (s : ByteArray) (hs : s.size ≤ 140737488355328) :
    Calls Tryd.prog 17 #[.pointer (some ⟨q, 0, none⟩), .int .i64 p, .string s] w fun e w' => e = .returned (.int .i64 (putE n p s.data.toList)) ∧ ML w0 q n (putF n f p s.data.toList) w' :=
  (put_any q n f p h1 h2 s hs w h.at_).mono fun _ _ k => ⟨k.1, h.step k.2.1 k.2.2⟩
/-- a set that fits is put at a plane that is -/
theorem ML.put_yes (h : ML w0 q n f w) {p : Nat} (hp : p < 8) {s : ByteArray} (hs : s.size ≤ 140737488355328) (hf : fitsB n s.data.toList = true) :
    Calls Tryd.prog 17 #[.pointer (some ⟨q, 0, none⟩), .int .i64 p, .string s] w fun e w' => e = .returned (.int .i64 0) ∧ ML w0 q n (upd f p (least s.data.toList)) w' := by
  have k := h.put (p : Int) (by omega) (by omega) s hs
  unfold putE putF at k
  rw [isP_nat hp, hf, Int.toNat_natCast] at k
  exact k
theorem ML.put_no (h : ML w0 q n f w) {p : Nat} (hp : p < 8) {s : ByteArray} (hs : s.size ≤ 140737488355328) (hf : fitsB n s.data.toList = false) :
    Calls Tryd.prog 17 #[.pointer (some ⟨q, 0, none⟩), .int .i64 p, .string s] w fun e w' => e = .returned (.int .i64 91) ∧ ML w0 q n f w' := by
  have k := h.put (p : Int) (by omega) (by omega) s hs
  unfold putE putF at k
  rw [isP_nat hp, hf] at k
  exact k
theorem ML.clear (h : ML w0 q n f w) {p : Nat} (hp : p < 8) :
    Calls Tryd.prog 21 #[.pointer (some ⟨q, 0, none⟩), .int .i64 p] w fun e w' => e = .returned (.int .i64 0) ∧ ML w0 q n (upd f p []) w' := by
  have k := (clear_any q n f (p : Int) (by omega) (by omega) w h.at_).mono fun _ _ k => And.intro k.1 (h.step k.2.1 k.2.2)
  unfold putE putF at k
  rw [isP_nat hp, fits_iff.2 (fits_nil n), Int.toNat_natCast] at k
  exact k
theorem ML.copy (h : ML w0 q n f w) {p t : Nat} (hp : p < 8) (ht : t < 8) :
    Calls Tryd.prog 19 #[.pointer (some ⟨q, 0, none⟩), .int .i64 p, .int .i64 t] w fun e w' => e = .returned (.int .i64 0) ∧ ML w0 q n (upd f t (f p)) w' := by
  have k := (copy_any' q n f (p : Int) (t : Int) (by omega) (by omega) (by omega) (by omega) w h.at_).mono fun _ _ k => And.intro k.1 (h.step k.2.1 k.2.2)
  unfold copyE copyF at k
  rw [isP_nat hp, isP_nat ht, Int.toNat_natCast, Int.toNat_natCast] at k
  exact k
theorem ML.plane (h : ML w0 q n f w) {p : Nat} (hp : p < 8) :
    Calls Tryd.prog 25 #[.pointer (some ⟨q, 0, none⟩), .int .i64 p] w fun e w' => e = .returned (.tuple #[.string (bs (f p)), .int .i64 0]) ∧ w = w' := by
  have k := plane_any q n f (p : Int) (by omega) (by omega) w h.at_
  unfold planeV at k
  rw [isP_nat hp, Int.toNat_natCast] at k
  exact k
theorem ML.diff (h : ML w0 q n f w) {p t : Nat} (hp : p < 8) (ht : t < 8) :
    Calls Tryd.prog 22 #[.pointer (some ⟨q, 0, none⟩), .int .i64 p, .int .i64 t] w fun e w' => e = .returned (.tuple #[.string (bs (SM.mk bsub (f t) (f p))), .string (bs (SM.mk bsub (f p) (f t))), .int .i64 0]) ∧ ML w0 q n f w' := by
  have k := (diff_any q n f (p : Int) (t : Int) (by omega) (by omega) (by omega) (by omega) w h.at_).mono fun _ _ k => And.intro k.1 (h.later k.2)
  unfold diffV at k
  rw [isP_nat hp, isP_nat ht, Int.toNat_natCast, Int.toNat_natCast] at k
  exact k
theorem ML.used (h : ML w0 q n f w) :
    Calls Tryd.prog 27 #[.pointer (some ⟨q, 0, none⟩)] w fun e w' => e = .returned (.string (bs (used f))) ∧ ML w0 q n f w' :=
  (used_any q n f w h.at_).mono fun _ _ k => ⟨k.1, h.later k.2⟩
theorem ML.free (h : ML w0 q n f w) :
    Calls Tryd.prog 29 #[.pointer (some ⟨q, 0, none⟩)] w fun e w' => e = .returned (.int .i64 (freeK f n n : Nat)) ∧ ML w0 q n f w' :=
  (free_any q n f w h.at_).mono fun _ _ k => ⟨k.1, h.later k.2⟩
theorem ML.text (h : ML w0 q n f w) :
    Calls Tryd.prog 15 #[.pointer (some ⟨q, 0, none⟩)] w fun e w' => e = .returned (.string (bs (textL n f))) ∧ ML w0 q n f w' :=
  (text_any q n f w h.at_).mono fun _ _ k => ⟨k.1, h.later k.2⟩
theorem ML.blocks (h : ML w0 q n f w) :
    Calls Tryd.prog 14 #[.pointer (some ⟨q, 0, none⟩)] w fun e w' => e = .returned (.int .i64 n) ∧ w = w' := mblocks_any q n f w h.at_
theorem ML.fixed (h : ML w0 q n f w) :
    Calls Tryd.prog 13 #[] w fun e w' => e = .returned (.bool true) ∧ ML w0 q n f w' :=
  (fixed9_any w).mono fun _ _ k => ⟨k.1, h.later k.2⟩
theorem ML.or_ (h : ML w0 q n f w) (a b : ByteArray) (ha : a.size ≤ 140737488355328) (hb : b.size ≤ 140737488355328) :
    Calls Tryd.prog 32 #[.string a, .string b] w fun e w' => e = .returned (.string (orB a b)) ∧ ML w0 q n f w' :=
  (or_b a b w ha hb).mono fun _ _ k => ⟨k.1, h.later k.2⟩
theorem ML.sub_ (h : ML w0 q n f w) (a b : ByteArray) (ha : a.size ≤ 140737488355328) (hb : b.size ≤ 140737488355328) :
    Calls Tryd.prog 31 #[.string a, .string b] w fun e w' => e = .returned (.string (subB a b)) ∧ ML w0 q n f w' :=
  (sub_b a b w ha hb).mono fun _ _ k => ⟨k.1, h.later k.2⟩
theorem ML.and_ (h : ML w0 q n f w) (a b : ByteArray) (ha : a.size ≤ 140737488355328) (hb : b.size ≤ 140737488355328) :
    Calls Tryd.prog 33 #[.string a, .string b] w fun e w' => e = .returned (.string (andB a b)) ∧ ML w0 q n f w' :=
  (and_b a b w ha hb).mono fun _ _ k => ⟨k.1, h.later k.2⟩
end
theorem orB_nil (a : ByteArray) : orB a ⟨#[]⟩ = bs (least a.data.toList) := by unfold orB; rw [← mk_or_nil]
theorem ne_self (X : ByteArray) : (X.toList != X.toList) = false := by simp
theorem eq_self (X : ByteArray) : (X.toList == X.toList) = true := by simp
theorem bs_small {n : Nat} {l : List UInt8} (h : least l = l) (hf : Fits n l) (hn : n ≤ 4096) : (bs l).size ≤ 512 := by
  have := length_fits h hf
  rw [bs_size]; omega
end Go.Proofs.YteboacjniokfpaaDoor

