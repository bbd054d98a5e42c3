/-
  The reference's Copy and Diff; the law's fixed calls and its bound.
-/
import Derived.Test.YteboacjniokfpaaDoorPlnS
namespace Go.Proofs.YteboacjniokfpaaDoor
open Go.ChangeShapes Go.WideShapes Go.ChangeAt Go.RowKit Go SM PL

theorem rcopy_any (r n : Nat) (f : Nat → List UInt8) (p t : Int) (w : World) (h : RAt r n f w) :
    Calls Tryd.prog 20 #[.pointer (some ⟨r, 0, none⟩), .int .i64 p, .int .i64 t] w fun e w' => e = .returned (.int .i64 (copyE p t)) ∧ RAt r n (copyF f p t) w' ∧ Stir (· = r) w w' := by
  have C1 := is_any p w
  have C2 := is_any t w
  unfold copyE copyF
  cases hp : isP p with
  | false =>
    rw [hp] at C1
    simp only [Bool.false_and, Bool.false_eq_true, if_false]
    go_enter Tryd.func20, Tryd.ntmps20
    go_wp2_with fail
    refine C1.mono ?_
    rintro e w1 ⟨rfl, rfl⟩
    go_wp2
    go_ret
    exact ⟨rfl, h, Stir.refl _ _⟩
  | true =>
    obtain ⟨k, rfl, hk⟩ := isP_yes hp
    rw [hp] at C1
    cases ht : isP t with
    | false =>
      rw [ht] at C2
      simp only [Bool.and_false, Bool.false_eq_true, if_false]
      go_enter Tryd.func20, Tryd.ntmps20
      go_wp2_with fail
      refine C1.mono ?_
      rintro e w1 ⟨rfl, rfl⟩
      go_wp2_with fail
      refine C2.mono ?_
      rintro e w1 ⟨rfl, rfl⟩
      go_wp2
      go_ret
      exact ⟨rfl, h, Stir.refl _ _⟩
    | true =>
      rw [ht] at C2
      simp only [Bool.and_self, if_true, Int.toNat_natCast]
      have CP := fun W (h : RAt r n f W) => rplane_any r n f (k : Int) W h
      unfold planeV at CP
      rw [hp] at CP
      simp only [if_true, Int.toNat_natCast] at CP
      have hl := h.ok.len hk
      have CU := fun W (h : RAt r n f W) => rput_any r n f t (bs (f k)) (by rw [bs_size]; omega) W h
      unfold putE putF at CU
      rw [bs_list, ht, fits_iff.2 (h.ok.fits k hk), h.ok.least k hk] at CU
      simp only [Bool.and_self, if_true] at CU
      have HH := Lib.hid h
      clear h hl
      generalize upd f t.toNat (f k) = G at *
      generalize bs (f k) = S at *
      go_enter Tryd.func20, Tryd.ntmps20
      go_wp2_with fail
      refine C1.mono ?_
      rintro e w1 ⟨rfl, rfl⟩
      go_wp2_with fail
      refine C2.mono ?_
      rintro e w1 ⟨rfl, rfl⟩
      go_wp2_with fail
      refine (CP _ HH.out).mono ?_
      rintro e w2 ⟨rfl, hB2⟩
      have H2 := Lib.hid (HH.out.below hB2)
      have HB2 := Lib.hid hB2
      clear hB2 CP
      go_wp2_with fail
      refine (CU _ H2.out).mono ?_
      rintro e w3 ⟨rfl, h3, s3⟩
      have H3 := Lib.hid (And.intro h3 s3)
      clear h3 s3 CU
      go_wp2
      go_ret
      exact ⟨rfl, H3.out.1, (Stir.of_below (F := (· = r)) HB2.out).trans H3.out.2 (fun _ h => .inl h)⟩

theorem rmake_sub (a b : List UInt8) (ha : a.length ≤ 512) (hb : b.length ≤ 512) (w : World) :
    Calls Tryd.prog 42 #[.string (bs a), .string (bs b), .int .i64 2] w fun e w' => e = .returned (.string (bs (mk bsub a b))) ∧ Below w.heap.size w w' := by
  have h := rmake_any 2 (by omega) (bs a) (bs b) (by rw [bs_size]; omega) (by rw [bs_size]; omega) w
  rw [bs_list, bs_list] at h
  exact h
set_option maxRecDepth 100000 in
theorem rdiff_any (r n : Nat) (f : Nat → List UInt8) (p t : Int) (w : World) (h : RAt r n f w) :
    Calls Tryd.prog 23 #[.pointer (some ⟨r, 0, none⟩), .int .i64 p, .int .i64 t] w fun e w' => e = .returned (diffV f p t) ∧ Below w.heap.size w w' := by
  have C1 := is_any p w
  have C2 := is_any t w
  unfold diffV
  cases hp : isP p with
  | false =>
    rw [hp] at C1
    simp only [Bool.false_and, Bool.false_eq_true, if_false]
    go_enter Tryd.func23, Tryd.ntmps23
    go_wp2_with fail
    refine C1.mono ?_
    rintro e w1 ⟨rfl, rfl⟩
    go_wp2
    go_ret3
    exact ⟨rfl, Below.refl _ _⟩
  | true =>
    obtain ⟨k, rfl, hk⟩ := isP_yes hp
    rw [hp] at C1
    cases ht : isP t with
    | false =>
      rw [ht] at C2
      simp only [Bool.and_false, Bool.false_eq_true, if_false]
      go_enter Tryd.func23, Tryd.ntmps23
      go_wp2_with fail
      refine C1.mono ?_
      rintro e w1 ⟨rfl, rfl⟩
      go_wp2_with fail
      refine C2.mono ?_
      rintro e w1 ⟨rfl, rfl⟩
      go_wp2
      go_ret3
      exact ⟨rfl, Below.refl _ _⟩
    | true =>
      obtain ⟨j, rfl, hj⟩ := isP_yes ht
      rw [ht] at C2
      simp only [Bool.and_self, if_true, Int.toNat_natCast]
      have CP := fun W (h : RAt r n f W) => rplane_any r n f (k : Int) W h
      have CQ := fun W (h : RAt r n f W) => rplane_any r n f (j : Int) W h
      unfold planeV at CP CQ
      rw [hp] at CP
      rw [ht] at CQ
      simp only [if_true, Int.toNat_natCast] at CP CQ
      have M1 := fun W => rmake_sub (f j) (f k) (h.ok.len hj) (h.ok.len hk) W
      have M2 := fun W => rmake_sub (f k) (f j) (h.ok.len hk) (h.ok.len hj) W
      have HH := Lib.hid h
      clear h
      generalize bs (mk bsub (f j) (f k)) = X at *
      generalize bs (mk bsub (f k) (f j)) = Y at *
      generalize bs (f k) = A at *
      generalize bs (f j) = B at *
      go_enter Tryd.func23, Tryd.ntmps23
      go_wp2_with fail
      refine C1.mono ?_
      rintro e w1 ⟨rfl, rfl⟩
      go_wp2_with fail
      refine C2.mono ?_
      rintro e w1 ⟨rfl, rfl⟩
      go_wp2_with fail
      refine (CP _ HH.out).mono ?_
      rintro e w2 ⟨rfl, hB2⟩
      have H2 := Lib.hid (HH.out.below hB2)
      have HB2 := Lib.hid hB2
      clear hB2 CP
      go_wp2_with fail
      refine (CQ _ H2.out).mono ?_
      rintro e w3 ⟨rfl, hB3⟩
      have HB3 := Lib.hid (HB2.out.trans (hB3.mono HB2.out.size))
      clear hB3 CQ
      go_wp2_with fail
      refine (M1 _).mono ?_
      rintro e w4 ⟨rfl, hB4⟩
      have HB4 := Lib.hid (HB3.out.trans (hB4.mono HB3.out.size))
      clear hB4 M1
      go_wp2_with fail
      refine (M2 _).mono ?_
      rintro e w5 ⟨rfl, hB5⟩
      have HB5 := Lib.hid (HB4.out.trans (hB5.mono HB4.out.size))
      clear hB5 M2
      go_wp2
      go_ret3
      exact ⟨rfl, HB5.out⟩

/-! ### The law's bound and its fixed calls -/
theorem bound_any (z : Int) (w : World) :
    Calls Tryd.prog 16 #[.int .i64 z] w fun e w' => ∃ n : Nat, e = .returned (.int .i64 n) ∧ w = w' ∧ 8 ≤ n ∧ n ≤ 300 ∧ (n : Int) = max 8 (min z 300) := by
  obtain ⟨n, hn⟩ : ∃ n : Nat, max 8 (min z 300) = (n : Int) := ⟨(max 8 (min z 300)).toNat, by omega⟩
  by_cases a : z < 300
  · have e1 : min z 300 = z := by omega
    have e1' : (if (300 : Int) < z then (300 : Int) else z) = z := by rw [if_neg (by omega)]
    rw [e1] at hn
    by_cases b : 8 < z
    · have e2 : max 8 z = z := by omega
      obtain ⟨m, rfl⟩ : ∃ m : Nat, z = (m : Int) := ⟨z.toNat, by omega⟩
      go_enter Tryd.func16, Tryd.ntmps16
      go_wp2
      go_ret
      exact ⟨n, rfl, rfl, by omega, by omega, by omega⟩
    · have e2 : max 8 z = 8 := by omega
      go_enter Tryd.func16, Tryd.ntmps16
      go_wp2
      go_ret
      exact ⟨n, rfl, rfl, by omega, by omega, by omega⟩
  · have e1 : min z 300 = 300 := by omega
    go_enter Tryd.func16, Tryd.ntmps16
    go_wp2
    go_ret
    exact ⟨300, rfl, rfl, by omega, by omega, by omega⟩
def g0 : Nat → List UInt8 := fun _ => []
def g1 : Nat → List UInt8 := putF 8 g0 0 [6]
def g2 : Nat → List UInt8 := copyF g1 0 3
def g3 : Nat → List UInt8 := putF 8 g2 0 [36]
def g4 : Nat → List UInt8 := putF 8 g3 0 [0, 1]
theorem g_facts : putE 8 0 [6] = 0 ∧ copyE 0 3 = 0 ∧ putE 8 0 [36] = 0 ∧ putE 8 0 [0, 1] = 91 := by decide +kernel
theorem g_diff : diffV g3 3 0 = .tuple #[.string ⟨#[32]⟩, .string ⟨#[2]⟩, .int .i64 0] := by kernel_rfl
theorem g_plane : planeV g4 3 = .tuple #[.string ⟨#[6]⟩, .int .i64 0] := by kernel_rfl
theorem g_plane8 : planeV g4 8 = .tuple #[.string ⟨#[]⟩, .int .i64 91] := by kernel_rfl
theorem g_text : textL 8 g4 = [0, 8, 9, 0, 0, 1, 0, 0] := by decide +kernel
theorem g_used : used g4 = [38] := by decide +kernel
theorem g_free : freeK g4 8 8 = 4 ∧ freeK g0 8 8 = 7 := by decide +kernel
theorem pu (q n : Nat) (f : Nat → List UInt8) (p : Int) (h1 : -9223372036854775808 ≤ p) (h2 : p ≤ 9223372036854775807) (s : ByteArray) (hs : s.size ≤ 140737488355328) (l : List UInt8) (hl : s.data.toList = l) (E : Int) (hE : putE n p l = E) (w : World) (h : MapAt q n f w) :
    Calls Tryd.prog 17 #[.pointer (some ⟨q, 0, none⟩), .int .i64 p, .string s] w fun e w' => e = .returned (.int .i64 E) ∧ MapAt q n (putF n f p l) w' ∧ Stir (· = q) w w' := by
  subst hl hE; exact put_any q n f p h1 h2 s hs w h
theorem co (q n : Nat) (f : Nat → List UInt8) (p t : Int) (hp : -9223372036854775808 ≤ p ∧ p ≤ 9223372036854775807) (ht : -9223372036854775808 ≤ t ∧ t ≤ 9223372036854775807) (E : Int) (hE : copyE p t = E) (w : World) (h : MapAt q n f w) :
    Calls Tryd.prog 19 #[.pointer (some ⟨q, 0, none⟩), .int .i64 p, .int .i64 t] w fun e w' => e = .returned (.int .i64 E) ∧ MapAt q n (copyF f p t) w' ∧ Stir (· = q) w w' := by
  subst hE; exact copy_any' q n f p t hp.1 hp.2 ht.1 ht.2 w h
set_option maxRecDepth 100000 in
set_option maxHeartbeats 4000000 in
theorem fixed9_any (w : World) :
    Calls Tryd.prog 13 #[] w fun e w' => e = .returned (.bool true) ∧ Below w.heap.size w w' := by
  obtain ⟨k1, k2, k3, k4⟩ := g_facts
  have C1 := new_yes 8 (by omega) (by omega) w
  have C1' : Calls Tryd.prog 9 #[.int .i64 8] w _ := C1
  have C2 := fun W => new_no 7 (by omega) W
  have C3 := fun q W h => free_any q 8 g0 W h
  rw [g_free.2] at C3
  have C4 := fun q W h => pu q 8 g0 0 (by omega) (by omega) ⟨#[6]⟩ (by decide) [6] rfl 0 k1 W h
  have C5 := fun q W h => co q 8 g1 0 3 ⟨by omega, by omega⟩ ⟨by omega, by omega⟩ 0 k2 W h
  have C6 := fun q W h => pu q 8 g2 0 (by omega) (by omega) ⟨#[36]⟩ (by decide) [36] rfl 0 k3 W h
  have C7 := fun q W h => diff_any q 8 g3 3 0 (by omega) (by omega) (by omega) (by omega) W h
  rw [g_diff] at C7
  have C8 := fun q W h => pu q 8 g3 0 (by omega) (by omega) ⟨#[0, 1]⟩ (by decide) [0, 1] rfl 91 k4 W h
  have C9 := fun q W h => plane_any q 8 g4 3 (by omega) (by omega) W h
  rw [g_plane] at C9
  have C10 := fun q W h => plane_any q 8 g4 8 (by omega) (by omega) W h
  rw [g_plane8] at C10
  have C11 := fun q W h => text_any q 8 g4 W h
  rw [g_text] at C11
  have CT : ∀ q W, MapAt q 8 g4 W → Calls Tryd.prog 15 #[.pointer (some ⟨q, 0, none⟩)] W fun e w' => e = .returned (.string ⟨#[0, 8, 9, 0, 0, 1, 0, 0]⟩) ∧ Below W.heap.size W w' := C11
  have C12 := fun W => parse_any ⟨#[0, 8, 9, 0, 0, 1, 0, 0]⟩ (by decide) W
  have C13 := fun q W h => used_any q 8 g4 W h
  rw [g_used] at C13
  have CU : ∀ q W, MapAt q 8 g4 W → Calls Tryd.prog 27 #[.pointer (some ⟨q, 0, none⟩)] W fun e w' => e = .returned (.string ⟨#[38]⟩) ∧ Below W.heap.size W w' := C13
  have C14 := fun q W h => free_any q 8 g4 W h
  rw [g_free.1] at C14
  have C15 : ∀ q W, MapAt q 8 (planeOf [0, 8, 9, 0, 0, 1, 0, 0]) W → Calls Tryd.prog 15 #[.pointer (some ⟨q, 0, none⟩)] W fun e w' => e = .returned (.string ⟨#[0, 8, 9, 0, 0, 1, 0, 0]⟩) ∧ Below W.heap.size W w' := fun q W h => by
    have := text_any q 8 _ W h
    rw [show textL 8 (planeOf [0, 8, 9, 0, 0, 1, 0, 0]) = [0, 8, 9, 0, 0, 1, 0, 0] from text_planeOf (s := [0, 8, 9, 0, 0, 1, 0, 0]) (by decide)] at this
    exact this
  clear C1 C11 C13 k1 k2 k3 k4
  go_enter Tryd.func13, Tryd.ntmps13
  go_wp2_with fail
  refine C1'.mono ?_
  rintro e w1 ⟨rfl, h1, hB1⟩
  have H := Lib.hid (show MapAt w.heap.size 8 g0 w1 from h1)
  have HB := Lib.hid hB1
  clear h1 hB1 C1'
  go_wp2_with fail
  refine (C2 _).mono ?_
  rintro e w2 ⟨rfl, rfl⟩
  go_wp2_with fail
  refine (C3 _ _ H.out).mono ?_
  rintro e w2 ⟨rfl, hB2⟩
  have H2 := Lib.hid (H.out.below hB2)
  have HB2 := Lib.hid (HB.out.trans (hB2.mono HB.out.size))
  clear hB2 C3
  go_wp2_with fail
  refine (C4 _ _ H2.out).mono ?_
  rintro e w3 ⟨rfl, h3, s3⟩
  have H3 := Lib.hid (show MapAt w.heap.size 8 g1 w3 from h3)
  have HB3 := Lib.hid (HB2.out.trans (s3.below (fun i e => by rw [e]; exact Nat.le_refl _) HB2.out.size))
  clear h3 s3 C4
  go_wp2_with fail
  refine (C5 _ _ H3.out).mono ?_
  rintro e w4 ⟨rfl, h4, s4⟩
  have H4 := Lib.hid (show MapAt w.heap.size 8 g2 w4 from h4)
  have HB4 := Lib.hid (HB3.out.trans (s4.below (fun i e => by rw [e]; exact Nat.le_refl _) HB3.out.size))
  clear h4 s4 C5
  go_wp2_with fail
  refine (C6 _ _ H4.out).mono ?_
  rintro e w5 ⟨rfl, h5, s5⟩
  have H5 := Lib.hid (show MapAt w.heap.size 8 g3 w5 from h5)
  have HB5 := Lib.hid (HB4.out.trans (s5.below (fun i e => by rw [e]; exact Nat.le_refl _) HB4.out.size))
  clear h5 s5 C6
  go_wp2_with fail
  refine (C7 _ _ H5.out).mono ?_
  rintro e w6 ⟨rfl, hB6⟩
  have H6 := Lib.hid (H5.out.below hB6)
  have HB6 := Lib.hid (HB5.out.trans (hB6.mono HB5.out.size))
  clear hB6 C7
  go_wp2_with fail
  refine (C8 _ _ H6.out).mono ?_
  rintro e w7 ⟨rfl, h7, s7⟩
  have H7 := Lib.hid (show MapAt w.heap.size 8 g4 w7 from h7)
  have HB7 := Lib.hid (HB6.out.trans (s7.below (fun i e => by rw [e]; exact Nat.le_refl _) HB6.out.size))
  clear h7 s7 C8
  go_wp2_with fail
  refine (C9 _ _ H7.out).mono ?_
  rintro e w8 ⟨rfl, rfl⟩
  go_wp2_with fail
  refine (C10 _ _ H7.out).mono ?_
  rintro e w8 ⟨rfl, rfl⟩
  go_wp2_with fail
  refine (CT _ _ H7.out).mono ?_
  rintro e w8 ⟨rfl, hB8⟩
  have H8 := Lib.hid (H7.out.below hB8)
  have HB8 := Lib.hid (HB7.out.trans (hB8.mono HB7.out.size))
  clear hB8
  go_wp2_with fail
  refine (C12 _).mono ?_
  rintro e w9 ⟨hB9, hc⟩
  have hp : ∃ q, e = .returned (.tuple #[.pointer (some ⟨q, 0, none⟩), .int .i64 0]) ∧ MapAt q 8 (planeOf [0, 8, 9, 0, 0, 1, 0, 0]) w9 := by
    rcases hc with ⟨_, q, e1, _, h⟩ | ⟨hn, _⟩
    · exact ⟨q, e1, h⟩
    · exact absurd ⟨by decide, by decide, by decide⟩ hn
  obtain ⟨q, rfl, hq⟩ := hp
  have H9 := Lib.hid (H8.out.below hB9)
  have HB9 := Lib.hid (HB8.out.trans (hB9.mono HB8.out.size))
  have HQ := Lib.hid hq
  clear hB9 hq hc C12
  go_wp2_with fail
  refine (CU _ _ H9.out).mono ?_
  rintro e w10 ⟨rfl, hB10⟩
  have H10 := Lib.hid (H9.out.below hB10)
  have Q10 := Lib.hid (HQ.out.below hB10)
  have HB10 := Lib.hid (HB9.out.trans (hB10.mono HB9.out.size))
  clear hB10
  go_wp2_with fail
  refine (C14 _ _ H10.out).mono ?_
  rintro e w11 ⟨rfl, hB11⟩
  have H11 := Lib.hid (H10.out.below hB11)
  have Q11 := Lib.hid (Q10.out.below hB11)
  have HB11 := Lib.hid (HB10.out.trans (hB11.mono HB10.out.size))
  clear hB11
  go_wp2_with fail
  refine (C15 _ _ Q11.out).mono ?_
  rintro e w12 ⟨rfl, hB12⟩
  have H12 := Lib.hid (H11.out.below hB12)
  have HB12 := Lib.hid (HB11.out.trans (hB12.mono HB11.out.size))
  clear hB12
  go_wp2_with fail
  refine (CT _ _ H12.out).mono ?_
  rintro e w13 ⟨rfl, hB13⟩
  have H13 := Lib.hid (H12.out.below hB13)
  have HB13 := Lib.hid (HB12.out.trans (hB13.mono HB12.out.size))
  clear hB13
  go_wp2_with fail
  refine (CT _ _ H13.out).mono ?_
  rintro e w14 ⟨rfl, hB14⟩
  have HB14 := Lib.hid (HB13.out.trans (hB14.mono HB13.out.size))
  clear hB14
  go_wp2
  go_ret
  exact ⟨rfl, HB14.out⟩
end Go.Proofs.YteboacjniokfpaaDoor

