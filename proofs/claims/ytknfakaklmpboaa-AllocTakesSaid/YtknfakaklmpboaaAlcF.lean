/-
  The calls whose answers the document fixes.
-/
import Derived.Test.YtknfakaklmpboaaAlcR
namespace Go.Proofs.Ytknfakaklmpboaa
open Go.ChangeShapes Go.WideShapes Go.ChangeAt Go.RowKit Go.Shelf Go SM PL AL

theorem fx_ord : ord [10] 8 3 = [4, 5, 6, 7, 2] ∧ ord [10] 8 7 = [7, 2, 4, 5, 6] := by decide +kernel
theorem fx_set : ofL (intsN [7, 2]) = [132] := by decide +kernel
theorem ints_lit (W : World) (vs : Array Value) (zs : List Int) (n : Nat) (hn : n = zs.length) (h : ∀ j (h : j < zs.length), vs[j]? = some (.int .i64 zs[j])) : IntsAt (W.alloc (.cells vs 3)) (.slice (some ⟨W.heap.size, 0, none⟩) n n) zs := by
  subst hn
  refine .inr ⟨W.heap.size, 0, zs.length, rfl, by simp, fun j hj => ?_⟩
  have e := heap_alloc_new W (.cells vs 3)
  simp only [World.cell?, e, Nat.zero_add]
  simpa using h j hj
theorem fixed10_any (w : World) :
    Calls Try.prog 9 #[] w fun e w' => e = .returned (.bool true) ∧ Below w.heap.size w w' := by
  have C1 : ∀ W, Calls Try.prog 7 #[.string ⟨#[10]⟩, .int .i64 8, .int .i64 3, .int .i64 4] W fun e w' => ∃ a cap, e = .returned (.tuple #[.slice a 4 cap, .int .i64 8, .int .i64 0]) ∧ IntsAt w' (.slice a 4 cap) [4, 5, 6, 7] ∧ Below W.heap.size W w' := fun W => by
    have := apick_yes ⟨#[10]⟩ 8 3 (by decide) (by omega) (by omega) (by omega) (by omega) 4 (by rw [show (⟨#[10]⟩ : ByteArray).data.toList = [10] from rfl, fx_ord.1]; decide) W
    unfold PickP at this
    rw [show (⟨#[10]⟩ : ByteArray).data.toList = [10] from rfl, fx_ord.1] at this
    exact this.mono fun _ _ ⟨a, cap, e, h, hB⟩ => ⟨a, cap, e, owns_ints (l := [4, 5, 6, 7]) h, hB⟩
  have C2 : ∀ W, Calls Try.prog 7 #[.string ⟨#[10]⟩, .int .i64 8, .int .i64 3, .int .i64 5] W fun e w' => ∃ a cap, e = .returned (.tuple #[.slice a 5 cap, .int .i64 3, .int .i64 0]) ∧ IntsAt w' (.slice a 5 cap) [4, 5, 6, 7, 2] ∧ Below W.heap.size W w' := fun W => by
    have := apick_yes ⟨#[10]⟩ 8 3 (by decide) (by omega) (by omega) (by omega) (by omega) 5 (by rw [show (⟨#[10]⟩ : ByteArray).data.toList = [10] from rfl, fx_ord.1]; decide) W
    unfold PickP at this
    rw [show (⟨#[10]⟩ : ByteArray).data.toList = [10] from rfl, fx_ord.1] at this
    exact this.mono fun _ _ ⟨a, cap, e, h, hB⟩ => ⟨a, cap, e, owns_ints (l := [4, 5, 6, 7, 2]) h, hB⟩
  have C3 : ∀ W, Calls Try.prog 7 #[.string ⟨#[10]⟩, .int .i64 8, .int .i64 3, .int .i64 6] W fun e w' => e = .returned (.tuple #[.slice none 0 0, .int .i64 0, .int .i64 101]) ∧ Below W.heap.size W w' := fun W =>
    apick_full ⟨#[10]⟩ 8 3 (by decide) (by omega) (by omega) (by omega) (by omega) 6 (by rw [show (⟨#[10]⟩ : ByteArray).data.toList = [10] from rfl, fx_ord.1]; decide) W
  have C4 : ∀ W, Calls Try.prog 7 #[.string ⟨#[]⟩, .int .i64 7, .int .i64 1, .int .i64 1] W fun e w' => e = .returned (.tuple #[.slice none 0 0, .int .i64 0, .int .i64 100]) ∧ W = w' := fun W => apick_bad ⟨#[]⟩ 7 1 1 (by decide) W
  have C5 : ∀ W, Calls Try.prog 10 #[.string ⟨#[10]⟩, .int .i64 8, .int .i64 7] W fun e w' => ∃ p, e = .returned (.tuple #[.pointer (some ⟨p, 0, none⟩), .int .i64 0]) ∧ (∃ F, PoolAt W.heap.size F p [10] 8 7 0 w') ∧ Below W.heap.size W w' := fun W =>
    anew_yes ⟨#[10]⟩ 8 7 (by decide) (by omega) (by omega) (by omega) (by omega) W
  have T1 : ∀ B F p W, PoolAt B F p [10] 8 7 0 W → Calls Try.prog 16 #[.pointer (some ⟨p, 0, none⟩)] W fun e w' => e = .returned (.tuple #[.int .i64 7, .int .i64 0]) ∧ ∃ F', PoolAt B F' p [10] 8 7 1 w' ∧ Stir F W w' := fun B F p W h => by
    have := take_yes h (by rw [fx_ord.2]; decide)
    simp only [fx_ord.2] at this
    exact this.mono fun _ _ ⟨e, F', h1, h2, _⟩ => ⟨e, F', h1, h2⟩
  have T2 : ∀ B F p W, PoolAt B F p [10] 8 7 1 W → Calls Try.prog 16 #[.pointer (some ⟨p, 0, none⟩)] W fun e w' => e = .returned (.tuple #[.int .i64 2, .int .i64 0]) ∧ ∃ F', PoolAt B F' p [10] 8 7 2 w' ∧ Stir F W w' := fun B F p W h => by
    have := take_yes h (by rw [fx_ord.2]; decide)
    simp only [fx_ord.2] at this
    exact this.mono fun _ _ ⟨e, F', h1, h2, _⟩ => ⟨e, F', h1, h2⟩
  have L1 : ∀ B F p W, PoolAt B F p [10] 8 7 2 W → Calls Try.prog 13 #[.pointer (some ⟨p, 0, none⟩)] W fun e w' => e = .returned (.int .i64 3) ∧ W = w' := fun B F p W h => by
    have := left_any h
    rw [fx_ord.2] at this
    exact this
  have N1 : ∀ B F p W, PoolAt B F p [10] 8 7 2 W → Calls Try.prog 15 #[.pointer (some ⟨p, 0, none⟩)] W fun e w' => e = .returned (.int .i64 3) ∧ W = w' := fun B F p W h => by
    have := pnext_any h
    rw [fx_ord.2] at this
    exact this
  have K1 : ∀ B F p W, PoolAt B F p [10] 8 7 2 W → Calls Try.prog 14 #[.pointer (some ⟨p, 0, none⟩)] W fun e w' => e = .returned (.string ⟨#[132]⟩) ∧ Below W.heap.size W w' := fun B F p W h => by
    have := taken_any h
    rw [fx_ord.2, show ([7, 2, 4, 5, 6] : List Nat).take 2 = [7, 2] from rfl, fx_set] at this
    exact this
  have S1 := fun v W (h : IntsAt W v [4, 5, 6, 7]) => same_any v _ [4, 5, 6, 7] [4, 5, 6, 7] (by decide) (by decide) (W.alloc (.cells #[.int .i64 4, .int .i64 5, .int .i64 6, .int .i64 7] 3)) (h.later ((Below.refl _ W).alloc (Nat.le_refl _) _)) (ints_lit W _ [4, 5, 6, 7] 4 rfl (fun j hj => by
    match j, hj with
    | 0, _ => rfl
    | 1, _ => rfl
    | 2, _ => rfl
    | 3, _ => rfl))
  have S2 := fun v W (h : IntsAt W v [4, 5, 6, 7, 2]) => same_any v _ [4, 5, 6, 7, 2] [4, 5, 6, 7, 2] (by decide) (by decide) (W.alloc (.cells #[.int .i64 4, .int .i64 5, .int .i64 6, .int .i64 7, .int .i64 2] 3)) (h.later ((Below.refl _ W).alloc (Nat.le_refl _) _)) (ints_lit W _ [4, 5, 6, 7, 2] 5 rfl (fun j hj => by
    match j, hj with
    | 0, _ => rfl
    | 1, _ => rfl
    | 2, _ => rfl
    | 3, _ => rfl
    | 4, _ => rfl))
  simp only [decide_true] at S1 S2
  go_enter Try.func9, Try.ntmps9
  go_wp2_with fail
  refine (C1 _).mono ?_
  rintro e w1 ⟨a1, c1, rfl, i1, hB1⟩
  have I1 := Lib.hid i1
  have HB1 := Lib.hid hB1
  clear i1 hB1 C1
  go_wp2_with fail
  refine (C2 _).mono ?_
  rintro e w2 ⟨a2, c2, rfl, i2, hB2⟩
  have I2 := Lib.hid i2
  have J2 := Lib.hid (I1.out.later hB2)
  have HB2 := Lib.hid (HB1.out.trans (hB2.mono HB1.out.size))
  clear i2 hB2 C2 I1
  go_wp2_with fail
  refine (C3 _).mono ?_
  rintro e w3 ⟨rfl, hB3⟩
  have I3 := Lib.hid (I2.out.later hB3)
  have J3 := Lib.hid (J2.out.later hB3)
  have HB3 := Lib.hid (HB2.out.trans (hB3.mono HB2.out.size))
  clear hB3 C3 I2 J2
  go_wp2_with fail
  refine (C4 _).mono ?_
  rintro e w4 ⟨rfl, rfl⟩
  clear C4
  go_wp2_with fail
  refine (C5 _).mono ?_
  rintro e w5 ⟨p, rfl, ⟨F, hp⟩, hB5⟩
  have P5 := Lib.hid hp
  have Q5 := Lib.hid hB5
  clear hp hB5 C5
  go_wp2_with fail
  refine (T1 _ _ _ _ P5.out).mono ?_
  rintro e w6 ⟨rfl, F', hp, hs⟩
  have P6 := Lib.hid hp
  have Q6 := Lib.hid (Q5.out.trans (hs.below (fun k hk => (P5.out.lt hk).2) Q5.out.size))
  clear hp hs T1 P5 Q5
  go_wp2_with fail
  refine (T2 _ _ _ _ P6.out).mono ?_
  rintro e w7 ⟨rfl, F2, hp, hs⟩
  have P7 := Lib.hid hp
  have Q7 := Lib.hid (Q6.out.trans (hs.below (fun k hk => (P6.out.lt hk).2) Q6.out.size))
  have I7 := Lib.hid (I3.out.later Q7.out)
  have J7 := Lib.hid (J3.out.later Q7.out)
  have HB7 := Lib.hid (HB3.out.trans (Q7.out.mono HB3.out.size))
  clear hp hs T2 P6 Q6 I3 J3 Q7
  go_wp2_with fail
  refine (S1 _ _ J7.out).mono ?_
  rintro e w8 ⟨rfl, hB8⟩
  have hA7 : Below w7.heap.size w7 w8 := ((Below.refl _ w7).alloc (Nat.le_refl _) _).trans (hB8.mono (by simp))
  have P8 := Lib.hid (P7.out.later hA7)
  have J8 := Lib.hid (I7.out.later hA7)
  have HB8 := Lib.hid (HB7.out.trans (hA7.mono HB7.out.size))
  clear hB8 hA7 S1 P7 J7 I7
  go_wp2_with fail
  refine (S2 _ _ J8.out).mono ?_
  rintro e w9 ⟨rfl, hB9⟩
  have hA8 : Below w8.heap.size w8 w9 := ((Below.refl _ w8).alloc (Nat.le_refl _) _).trans (hB9.mono (by simp))
  have P9 := Lib.hid (P8.out.later hA8)
  have HB9 := Lib.hid (HB8.out.trans (hA8.mono HB8.out.size))
  clear hB9 hA8 S2 P8 J8
  go_wp2_with fail
  refine (L1 _ _ _ _ P9.out).mono ?_
  rintro e w10 ⟨rfl, rfl⟩
  go_wp2_with fail
  refine (N1 _ _ _ _ P9.out).mono ?_
  rintro e w10 ⟨rfl, rfl⟩
  go_wp2_with fail
  refine (K1 _ _ _ _ P9.out).mono ?_
  rintro e w10 ⟨rfl, hB10⟩
  have HB10 := Lib.hid (HB9.out.trans (hB10.mono HB9.out.size))
  clear hB10 L1 N1 K1
  have hq : ((⟨#[132]⟩ : ByteArray).toList == (⟨#[132]⟩ : ByteArray).toList) = true := by simp
  go_wp2
  go_ret
  exact ⟨rfl, HB10.out⟩
end Go.Proofs.Ytknfakaklmpboaa

