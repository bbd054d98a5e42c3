/-
  A disk: Bad.
-/
import Derived.Test.YtknfakaklmpboaaGreatDoorMC
import Derived.Test.YtknfakaklmpboaaGreatDoorSetsE4
import Derived.Shelf.SlMaps.Clone
import Derived.Lib.ConvBytes
import Derived.Lib.SliceRun
import Derived.OwnWalk
namespace Go.Proofs.YtknfakaklmpboaaGreatDoor
open Go.RowKit Go Go.Maps SM

section
variable {b g cap m : Nat} {B : ByteArray} {a : Int} {s : DS} {cur : Array Value} {D : DataW Unit} {w w' : World}

/-! ### Bad -/
theorem bit_mk (f : UInt8 → UInt8 → UInt8) (hf : f 0 0 = 0) (c : Bool → Bool → Bool) (h : ∀ x y k, k < 8 → (f x y).toNat.testBit k = c (x.toNat.testBit k) (y.toNat.testBit k)) (p q : List UInt8) (n : Nat) : bit (mk f p q) n = c (bit p n) (bit q n) := by
  simp only [bit, gd_mk f hf]
  exact h _ _ _ (Nat.mod_lt _ (by decide))
theorem bitI_one {n : Nat} (hn : n ≤ 65535) (k : Int) : bitI (ofL [(n : Int)]) k = decide (k = n) := by
  have hok : okI [(n : Int)] = true := by simp [okI]; omega
  unfold bitI
  by_cases h : 0 ≤ k
  · obtain ⟨j, rfl⟩ := Int.eq_ofNat_of_zero_le h
    rw [Int.toNat_natCast, bit_ofL hok]
    simp
  · simp [h]; omega
theorem bitI_bor (p q : List UInt8) (k : Int) : bitI (mk bor p q) k = (bitI p k || bitI q k) := by
  unfold bitI
  rw [bit_mk bor (by decide) (· || ·) (fun x y k _ => tb_bor x y k)]
  cases decide (0 ≤ k) <;> simp
theorem bitI_bsub (p q : List UInt8) (k : Int) : bitI (mk bsub p q) k = (bitI p k && !bitI q k) := by
  unfold bitI
  rw [bit_mk bsub (by decide) (fun x y => x && !y) (fun x y k hk => tb_bsub x y k hk)]
  cases decide (0 ≤ k) <;> simp
theorem ints_one (w : World) (n : Int) (t : TypeId) : IntsAt (w.alloc (.cells #[.int .i64 n] t)) (.slice (some ⟨w.heap.size, 0, none⟩) 1 1) [n] := by
  refine .inr ⟨w.heap.size, 0, 1, rfl, by simp, fun j hj => ?_⟩
  obtain rfl : j = 0 := by simpa using hj
  simp

set_option maxRecDepth 100000 in
theorem bad_any (h : DiskAt b g m s w) (n : Int) (hn : I64 n) (f : Bool) :
    Calls Tryz.prog 13 #[.pointer (some ⟨b, 0, none⟩), .int .i64 n, .bool f] w fun e w' => e = .returned (.int .i64 (s.may n)) ∧ DiskAt b g m (s.setBad n f) w' ∧ Stir (Foot b g m) w w' := by
  obtain ⟨hk, cap, B, cur, D, h⟩ := h
  have C1 := find_at h hk n hn
  have HH := Lib.hid h
  by_cases hmay : s.may n = 0
  · rw [hmay] at C1 ⊢
    obtain ⟨h0, h1⟩ := (DS.may_ok hmay).2
    obtain ⟨k, rfl⟩ := Int.eq_ofNat_of_zero_le h0
    have hle := hk.le
    have hok : okI [(k : Int)] = true := by simp [okI]; omega
    have hlen : (ofL [(k : Int)]).length ≤ 8192 := by rw [length_ofL]; exact lenI_le hok
    have hof := of_any _ _ (by simp) _ (ints_one w k 3)
    rw [ofV, if_pos hok] at hof
    have hbit := fun j => bitI_one (n := k) (by omega) j
    obtain ⟨one, hone⟩ : ∃ one : ByteArray, (⟨(ofL [(k : Int)]).toArray⟩ : ByteArray) = one := ⟨_, rfl⟩
    have h1l : one.data.toList = ofL [(k : Int)] := by rw [← hone]
    rw [show str (ofL [(k : Int)]) = .string one by rw [← hone]; rfl] at hof
    rw [← h1l] at hbit
    have h1s : one.size ≤ 8192 := by rw [← len_of, h1l]; exact hlen
    have hs := h.size
    have hB0 : Below w.heap.size w (w.alloc (.cells #[.int .i64 (k : Int)] 3)) := (Below.refl _ w).alloc (Nat.le_refl _) _
    have HB0 := Lib.hid hB0
    have hset : s.setBad (k : Int) f = { s with bad := fun j => if j = (k : Int) then f else s.bad j } := by simp [DS.setBad, hmay]
    rw [hset]
    have KEY : ∀ (w3 : World) (T : ByteArray) (_ : T.size ≤ 8192) (_ : ∀ j, bitI T.data.toList j = if j = (k : Int) then f else s.bad j), Below w.heap.size w w3 →
        DiskAt b g m { s with bad := fun j => if j = (k : Int) then f else s.bad j } (w3.setCell ⟨b, 2, none⟩ (.string T)) ∧ Stir (Foot b g m) w (w3.setCell ⟨b, 2, none⟩ (.string T)) := by
      intro w3 T hl hb hB
      have h3 := HH.out.below hB
      refine ⟨⟨⟨hk.pos, hk.le, hk.sz, hk.nd, hk.key, hk.few, hk.arm, hk.keep⟩, cap, T, cur, D, ?_⟩, (Stir.of_below hB).set (.inl (.inl rfl)) _⟩
      refine DAt.cell (s' := { s with bad := fun j => if j = (k : Int) then f else s.bad j }) (a' := s.armZ) (B' := T) h3 2 _ rfl rfl hl hb ?_
      rw [heap_set h3.obj]
      simp [DObj]
    have KY := Lib.hid KEY
    have hbb := h.bads
    cases f with
    | true =>
      have hX : ∀ j, bitI (mk bor B.data.toList one.data.toList) j = if j = (k : Int) then true else s.bad j := fun j => by
        rw [bitI_bor, hbit, hbb]
        by_cases e : j = (k : Int) <;> simp [e]
      have hY : (mk bor B.data.toList one.data.toList).length ≤ 8192 := by
        have := mk_length bor B.data.toList one.data.toList
        rw [len_of, len_of] at this
        omega
      have C3 := fun w => or_any B one (by omega) (by omega) w
      obtain ⟨T, hT⟩ : ∃ T : ByteArray, (⟨(mk bor B.data.toList one.data.toList).toArray⟩ : ByteArray) = T := ⟨_, rfl⟩
      have hTl : T.data.toList = mk bor B.data.toList one.data.toList := by rw [← hT]
      rw [← hTl] at hX hY
      rw [len_of] at hY
      have C3 : ∀ w, Calls Tryz.prog 59 #[.string B, .string one] w fun e w' => e = .returned (.string T) ∧ Below w.heap.size w w' := fun w => by rw [← hT]; exact C3 w
      have HX := Lib.hid hX
      have HY := Lib.hid hY
      clear hT hTl
      clear h hmay h0 h1 hlen hbit h1l hX hY hbb KEY hset hB0 hone
      go_enter Tryz.func13, Tryz.ntmps13
      go_wp2_with fail
      refine C1.mono ?_
      rintro e w' ⟨rfl, rfl⟩
      go_wp2_with fail
      refine hof.mono ?_
      rintro e w2 ⟨rfl, hB2⟩
      have HB2 := Lib.hid (HB0.out.trans (hB2.mono HB0.out.size))
      have h2 := HH.out.below HB2.out
      have c2 := DObj.c2 h2.obj
      clear h2 hB2
      go_wp2_with fail
      refine (C3 _).mono ?_
      rintro e w3 ⟨rfl, hB3⟩
      have HB3 := Lib.hid (HB2.out.trans (hB3.mono HB2.out.size))
      have h3 := HH.out.below HB3.out
      have f2 := DObj.fr h3.obj 2
      have c2 := DObj.c2 h3.obj
      clear h3 hB3
      go_wp2
      go_ret
      exact ⟨rfl, KY.out _ _ HY.out HX.out HB3.out⟩
    | false =>
      have hX : ∀ j, bitI (mk bsub B.data.toList one.data.toList) j = if j = (k : Int) then false else s.bad j := fun j => by
        rw [bitI_bsub, hbit, hbb]
        by_cases e : j = (k : Int) <;> simp [e]
      have hY : (mk bsub B.data.toList one.data.toList).length ≤ 8192 := by
        have := mk_length bsub B.data.toList one.data.toList
        rw [len_of, len_of] at this
        omega
      have C3 := fun w => minus_any B one (by omega) (by omega) w
      obtain ⟨T, hT⟩ : ∃ T : ByteArray, (⟨(mk bsub B.data.toList one.data.toList).toArray⟩ : ByteArray) = T := ⟨_, rfl⟩
      have hTl : T.data.toList = mk bsub B.data.toList one.data.toList := by rw [← hT]
      rw [← hTl] at hX hY
      rw [len_of] at hY
      have C3 : ∀ w, Calls Tryz.prog 60 #[.string B, .string one] w fun e w' => e = .returned (.string T) ∧ Below w.heap.size w w' := fun w => by rw [← hT]; exact C3 w
      have HX := Lib.hid hX
      have HY := Lib.hid hY
      clear hT hTl
      clear h hmay h0 h1 hlen hbit h1l hX hY hbb KEY hset hB0 hone
      go_enter Tryz.func13, Tryz.ntmps13
      go_wp2_with fail
      refine C1.mono ?_
      rintro e w' ⟨rfl, rfl⟩
      go_wp2_with fail
      refine hof.mono ?_
      rintro e w2 ⟨rfl, hB2⟩
      have HB2 := Lib.hid (HB0.out.trans (hB2.mono HB0.out.size))
      have h2 := HH.out.below HB2.out
      have c2 := DObj.c2 h2.obj
      clear h2 hB2
      go_wp2_with fail
      refine (C3 _).mono ?_
      rintro e w3 ⟨rfl, hB3⟩
      have HB3 := Lib.hid (HB2.out.trans (hB3.mono HB2.out.size))
      have h3 := HH.out.below HB3.out
      have f2 := DObj.fr h3.obj 2
      have c2 := DObj.c2 h3.obj
      clear h3 hB3
      go_wp2
      go_ret
      exact ⟨rfl, KY.out _ _ HY.out HX.out HB3.out⟩
  · have hne : (s.may n == 0) = false := beq_eq_false_iff_ne.2 hmay
    rw [show s.setBad n f = s by simp [DS.setBad, hmay]]
    generalize s.may n = E at C1 hmay hne ⊢
    clear h hmay
    go_enter Tryz.func13, Tryz.ntmps13
    go_wp2_with fail
    refine C1.mono ?_
    rintro e w' ⟨rfl, rfl⟩
    go_wp2
    go_ret
    exact ⟨rfl, ⟨hk, _, _, _, _, HH.out⟩, Stir.refl _ _⟩

end
end Go.Proofs.YtknfakaklmpboaaGreatDoor

