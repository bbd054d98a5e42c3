/-
  A tree: Read.
-/
import Derived.Test.YtfncoojpommfcaaGreatDoorF3
namespace Go.Proofs.YtfncoojpommfcaaGreatDoor
open Go.RowKit Go Go.Maps

/-- some bytes of a text -/
def piece (d : ByteArray) (a n : Nat) : ByteArray := bs ((d.data.toList.drop a).take n)
/-- what Read answers -/
noncomputable def readV (T : List Nod) (s : ByteArray) (a n : Int) : ByteArray × Int :=
  match fileR T s with
  | .error e => (⟨#[]⟩, e)
  | .ok k => match nodeAt T k with
    | none => (⟨#[]⟩, 141)
    | some x => if a < 0 ∨ n < 0 then (⟨#[]⟩, 145) else (piece x.data a.toNat n.toNat, 0)
theorem fileR_err {T : List Nod} {s : ByteArray} {e : Int} (h : fileR T s = .error e) : e = 140 ∨ e = 141 ∨ e = 143 := by
  unfold fileR at h
  split at h
  · rename_i hw; cases h; exact findR_err hw
  · split at h
    · cases h; exact .inr (.inr rfl)
    · cases h
theorem fileR_ok {T : List Nod} (hF : Formed T) {s : ByteArray} {k : Int} (h : fileR T s = .ok k) : ∃ x, nodeAt T k = some x ∧ x.dir = false := by
  unfold fileR at h
  split at h
  · cases h
  · rename_i j hw
    split at h
    · cases h
    · rename_i hd
      cases h
      obtain ⟨x, hx⟩ := findR_node hF hw
      rw [(isDir_at hx).1] at hd
      exact ⟨x, hx, by simpa using hd⟩
theorem piece_is (d : ByteArray) {a n A N : Nat} (hA : A = min a d.size) (hN : N = min n (d.size - A)) : (d.extract A d.size).extract 0 N = piece d a n := by
  apply ba_ext
  have e1 : d.data.toList.length = d.size := Array.length_toList (xs := d.data)
  have e2 : ((d.extract A d.size).extract 0 N).data.toList = (d.extract A d.size).data.toList.take N := Lib.extract_from_zero _ N
  have e3 : (d.extract A d.size).data.toList = d.data.toList.drop A := Lib.extract_to_end d A
  unfold piece
  rw [e2, e3, bs_list]
  by_cases h : a ≤ d.size
  · have : A = a := by omega
    subst this
    by_cases h2 : n ≤ d.size - A
    · have e : N = n := by omega
      rw [e]
    · have : N = d.size - A := by omega
      have e4 : (d.data.toList.drop A).length ≤ N := by rw [List.length_drop]; omega
      have e5 : (d.data.toList.drop A).length ≤ n := by rw [List.length_drop]; omega
      rw [List.take_of_length_le e4, List.take_of_length_le e5]
  · have : A = d.size := by omega
    have e4 : d.data.toList.drop A = [] := List.drop_of_length_le (by omega)
    have e5 : d.data.toList.drop a = [] := List.drop_of_length_le (by omega)
    rw [e4, e5]; simp
section
variable {w w' w2 : World} {c m : Nat} {P : Int → Nat} {G : Int → Option Nat} {T : List Nod} {D : DataW Unit}
set_option maxRecDepth 100000 in
set_option maxHeartbeats 2000000 in
theorem fread_any (h : TreeAt c m P G T D w) (hF : Formed T) {s : ByteArray} (hs : s.size ≤ 281474976710656) (a n : Int) (_ : IntOk a) (_ : IntOk n) :
    Calls Tryz.prog 20 #[.pointer (some ⟨c, 0, none⟩), .string s, .int .i64 a, .int .i64 n] w fun e w' => e = .returned (.tuple #[.string (readV T s a n).1, .int .i64 (readV T s a n).2]) ∧ Below w.heap.size w w' := by
  have C := file_any h hF hs
  have HH := Lib.hid h
  have HF := Lib.hid hF
  unfold readV
  cases hf : fileR T s with
  | error e =>
    have he := fileR_err hf
    have he0 : (e != 0) = true := by simp; omega
    rw [hf] at C
    unfold walkRes at C
    simp only at C ⊢
    clear h hF hf he
    go_enter Tryz.func20, Tryz.ntmps20
    go_wp2_with fail
    refine C.mono ?_
    rintro e w1 ⟨rfl, hB1⟩
    go_wp2
    go_ret2
    exact ⟨rfl, hB1⟩
  | ok k =>
    obtain ⟨x, hx, hd⟩ := fileR_ok HF.out hf
    rw [hf] at C
    unfold walkRes at C
    simp only at C ⊢
    rw [hx]
    simp only
    have CN := fun w1 (hB : Below w.heap.size w w1) => NObj.c3 ((HH.out.later hB).node k x hx).obj
    by_cases ha : a < 0
    · rw [if_pos (.inl ha)]
      clear h hF hf hx hd
      go_enter Tryz.func20, Tryz.ntmps20
      go_wp2_with fail
      refine C.mono ?_
      rintro e w1 ⟨rfl, hB1⟩
      clear CN
      go_wp2
      go_ret2
      exact ⟨rfl, hB1⟩
    · by_cases hn : n < 0
      · rw [if_pos (.inr hn)]
        clear h hF hf hx hd
        go_enter Tryz.func20, Tryz.ntmps20
        go_wp2_with fail
        refine C.mono ?_
        rintro e w1 ⟨rfl, hB1⟩
        clear CN
        go_wp2
        go_ret2
        exact ⟨rfl, hB1⟩
      · rw [if_neg (fun f => f.elim ha hn)]
        have hdl := ((HF.out.nodeOk hx).2.1 hd).2
        obtain ⟨A, hA⟩ : ∃ A, A = min a.toNat x.data.size := ⟨_, rfl⟩
        obtain ⟨N, hN⟩ : ∃ N, N = min n.toNat (x.data.size - A) := ⟨_, rfl⟩
        have HP := Lib.hid (piece_is x.data hA hN)
        have hAz : min a (x.data.size : Int) = (A : Int) := by omega
        have hA1 : A ≤ x.data.size := by omega
        obtain ⟨X, hX⟩ : ∃ X, x.data.extract A x.data.size = X := ⟨_, rfl⟩
        have hXs : X.size = x.data.size - A := by rw [← hX, ByteArray.size_extract]; omega
        have hNz : min n (X.size : Int) = (N : Int) := by omega
        have hN1 : N ≤ X.size := by omega
        have CC := fun w => clone_any (X.extract 0 N) (by rw [ByteArray.size_extract]; omega) w
        have HX := Lib.hid hX
        have HQ := Lib.hid (show piece x.data a.toNat n.toNat = X.extract 0 N by rw [← HP.out, HX.out])
        rw [HQ.out]
        have HAN := Lib.hid (And.intro hA hN)
        clear h hF hf hx hd hA hN hXs hdl
        go_enter Tryz.func20, Tryz.ntmps20
        go_wp2_with fail
        refine C.mono ?_
        rintro e w1 ⟨rfl, hB1⟩
        have d3 := CN w1 hB1
        have HB1 := Lib.hid hB1
        clear CN hB1 C
        go_wp2
        go_quiet (fail)
        go_wp2_with fail
        refine (CC _).mono ?_
        rintro e w2 ⟨rfl, hB2⟩
        go_wp2
        go_ret2
        exact ⟨rfl, (below_drewN HB1.out _).trans (hB2.mono HB1.out.size)⟩
end
end Go.Proofs.YtfncoojpommfcaaGreatDoor

