/-
  New; Pick.
-/
import Derived.Test.YtknfakaklmpboaaAlcB
import Derived.Deep.RegionHeld3
import Derived.Laws.EntriesVeiled
namespace Go.Proofs.Ytknfakaklmpboaa
open Go.ChangeShapes Go.WideShapes Go.ChangeAt Go.RowKit Go.Shelf Go SM PL AL

/-- what may not be asked -/
def badA (b f : Int) : Bool := decide (b < 8) || decide (4096 < b) || decide (f < 1) || decide (b < f)
theorem badA_no {b f : Int} (h : badA b f = false) : ∃ n g : Nat, b = (n : Int) ∧ f = (g : Int) ∧ 8 ≤ n ∧ n ≤ 4096 ∧ 1 ≤ g ∧ g ≤ n := by
  simp only [badA, Bool.or_eq_false_iff, decide_eq_false_iff_not] at h
  exact ⟨b.toNat, f.toNat, by omega, by omega, by omega, by omega, by omega, by omega⟩
theorem badA_nat {n g : Nat} (h1 : 8 ≤ n) (h2 : n ≤ 4096) (h3 : 1 ≤ g) (h4 : g ≤ n) : badA (n : Int) (g : Int) = false := by
  simp only [badA, Bool.or_eq_false_iff, decide_eq_false_iff_not]; omega
theorem badA_yes {b f : Int} (h : badA b f = true) : b < 8 ∨ (¬ b < 8 ∧ 4096 < b) ∨ (¬ b < 8 ∧ ¬ 4096 < b ∧ f < 1) ∨ (¬ b < 8 ∧ ¬ 4096 < b ∧ ¬ f < 1 ∧ b < f) := by
  simp only [badA, Bool.or_eq_true, decide_eq_true_eq] at h
  omega
theorem round_any (S : ByteArray) (p : Int) (w : World) :
    Calls Try.prog 20 #[.string S, .int .i64 p] w fun e w' => e = .returned (.tuple #[.func (.func 23) #[] #[.pointer (some ⟨w.heap.size, 0, none⟩), .pointer (some ⟨w.heap.size + 1, 0, none⟩)], .func (.func 25) #[] #[.pointer (some ⟨w.heap.size + 1, 0, none⟩)]]) ∧ w' = (w.alloc (.cells #[.string S] 9)).alloc (.cells #[.int .i64 p] 3) := by
  go_enter Try.func20, Try.ntmps20
  go_wp2
  go_ret2
  exact ⟨rfl, rfl⟩
theorem anew_no (s : ByteArray) (b f : Int) (h : badA b f = true) (w : World) :
    Calls Try.prog 10 #[.string s, .int .i64 b, .int .i64 f] w fun e w' => e = .returned (.tuple #[.pointer none, .int .i64 100]) ∧ w = w' := by
  rcases badA_yes h with h1 | ⟨h1, h2⟩ | ⟨h1, h2, h3⟩ | ⟨h1, h2, h3, h4⟩ <;> clear h
  all_goals (
    go_enter Try.func10, Try.ntmps10
    go_wp2
    go_ret2
    exact ⟨rfl, rfl⟩)
set_option maxRecDepth 100000 in
set_option maxHeartbeats 2000000 in
theorem anew_yes (s : ByteArray) (n f : Nat) (hs : s.size ≤ 140737488355328) (h1 : 8 ≤ n) (h2 : n ≤ 4096) (h3 : 1 ≤ f) (h4 : f ≤ n) (w : World) :
    Calls Try.prog 10 #[.string s, .int .i64 n, .int .i64 f] w fun e w' => ∃ p, e = .returned (.tuple #[.pointer (some ⟨p, 0, none⟩), .int .i64 0]) ∧ (∃ F, PoolAt w.heap.size F p s.data.toList n f 0 w') ∧ Below w.heap.size w w' := by
  have a1 : ¬ (n : Int) < 8 := by omega
  have a2 : ¬ (4096 : Int) < (n : Int) := by omega
  have a3 : ¬ (f : Int) < 1 := by omega
  have a4 : ¬ (n : Int) < (f : Int) := by omega
  have C1 := freeOf_any s n hs (by omega) h2 w
  have hl := length_freeT (u := s.data.toList) (n := n) (by omega)
  have C2 := fun w => count_any (bs (freeT s.data.toList n)) w (by rw [bs_size]; omega)
  rw [bs_list, cnt_freeT (by omega), ← length_ord _ _ f] at C2
  have HH := Lib.hid (And.intro (And.intro h1 h2) (And.intro h3 h4))
  have HL := Lib.hid (show (ord s.data.toList n f).length ≤ 4096 by have := length_frees s.data.toList n; rw [length_ord]; omega)
  obtain ⟨L, hL⟩ : ∃ L, (ord s.data.toList n f).length = L := ⟨_, rfl⟩
  rw [hL] at C2
  have HLL := Lib.hid hL
  obtain ⟨T, hT⟩ : ∃ T, bs (freeT s.data.toList n) = T := ⟨_, rfl⟩
  rw [hT] at C1 C2
  have HT := Lib.hid hT
  clear h1 h2 h3 h4 hl hL hT
  go_enter Try.func10, Try.ntmps10
  go_wp2_with fail
  refine C1.mono ?_
  rintro e w1 ⟨rfl, hB1⟩
  have HB1 := Lib.hid hB1
  have hs1 := hB1.size
  clear hB1 C1
  go_wp2_with fail
  refine (C2 _).mono ?_
  rintro e w2 ⟨rfl, rfl⟩
  have CR := fun w => round_any T (f : Int) w
  obtain ⟨w3, hw3⟩ : ∃ w3, ((w1.alloc (.cells #[.nilFunc, .nilFunc, .int .i64 (L : Int), .slice none 0 0] 44)).alloc (.cells #[.string T] 9)).alloc (.cells #[.int .i64 (f : Int)] 3) = w3 := ⟨_, rfl⟩
  have hp3 : w3.heap[w1.heap.size]? = some (.cells #[.nilFunc, .nilFunc, .int .i64 (L : Int), .slice none 0 0] 44 (0, 0)) := by
    rw [← hw3]; exact heap_alloc_old (heap_alloc_old (heap_alloc_new w1 _) _) _
  have hs3 : Boxed w3 (w1.heap.size + 1) 9 (.string T) := by
    rw [← hw3]
    have := Boxed.new (w1.alloc (.cells #[.nilFunc, .nilFunc, .int .i64 (L : Int), .slice none 0 0] 44)) 9 (.string T)
    rw [World.size_alloc] at this
    exact this.alloc _
  have hi3 : Boxed w3 (w1.heap.size + 1 + 1) 3 (.int .i64 (f : Int)) := by
    rw [← hw3]
    have := Boxed.new ((w1.alloc (.cells #[.nilFunc, .nilFunc, .int .i64 (L : Int), .slice none 0 0] 44)).alloc (.cells #[.string T] 9)) 3 (.int .i64 (f : Int))
    rw [World.size_alloc, World.size_alloc] at this
    exact this
  have HB3 := Lib.hid (show Below w.heap.size w w3 by rw [← hw3]; exact ((HB1.out.alloc (by omega) _).alloc (by simp; omega) _).alloc (by simp; omega) _)
  have c0 : w3.cell? ⟨w1.heap.size, 0, none⟩ = some .nilFunc := by simp [World.cell?, hp3]
  have g0 : w3.frozen? ⟨w1.heap.size, 0, none⟩ = false := by simp [World.frozen?, hp3]
  have hp4 := heap_set hp3 (i := 0) (.func (.func 23) #[] #[.pointer (some ⟨w1.heap.size + 1, 0, none⟩), .pointer (some ⟨w1.heap.size + 1 + 1, 0, none⟩)])
  have c1 : (w3.setCell ⟨w1.heap.size, 0, none⟩ (.func (.func 23) #[] #[.pointer (some ⟨w1.heap.size + 1, 0, none⟩), .pointer (some ⟨w1.heap.size + 1 + 1, 0, none⟩)])).cell? ⟨w1.heap.size, 1, none⟩ = some .nilFunc := by simp [World.cell?, hp4]
  have g1 : (w3.setCell ⟨w1.heap.size, 0, none⟩ (.func (.func 23) #[] #[.pointer (some ⟨w1.heap.size + 1, 0, none⟩), .pointer (some ⟨w1.heap.size + 1 + 1, 0, none⟩)])).frozen? ⟨w1.heap.size, 1, none⟩ = false := by simp [World.frozen?, hp4]
  have HOut := Lib.hid (show PoolIs w.heap.size w1.heap.size (w1.heap.size + 1) (w1.heap.size + 1 + 1) (.slice none 0 0) s.data.toList n f 0 ((w3.setCell ⟨w1.heap.size, 0, none⟩ (.func (.func 23) #[] #[.pointer (some ⟨w1.heap.size + 1, 0, none⟩), .pointer (some ⟨w1.heap.size + 1 + 1, 0, none⟩)])).setCell ⟨w1.heap.size, 1, none⟩ (.func (.func 25) #[] #[.pointer (some ⟨w1.heap.size + 1 + 1, 0, none⟩)])) from
    ⟨by rw [heap_set hp4, Nat.sub_zero, HLL.out]; rfl, by rw [HT.out]; exact heap_set_other (heap_set_other hs3 (by omega) _) (by omega) _, heap_set_other (heap_set_other hi3 (by omega) _) (by omega) _,
      World.ownsRow_nil _ _ _ _, by simp [Value.ownBlock], ⟨by omega, by omega, by omega⟩, Nat.zero_le _, HH.out.1.1, HH.out.1.2, HH.out.2.1, HH.out.2.2⟩)
  have HB5 := Lib.hid ((HB3.out.setCell (p := ⟨w1.heap.size, 0, none⟩) (by simpa using hs1) (.func (.func 23) #[] #[.pointer (some ⟨w1.heap.size + 1, 0, none⟩), .pointer (some ⟨w1.heap.size + 1 + 1, 0, none⟩)])).setCell (p := ⟨w1.heap.size, 1, none⟩) (by simpa using hs1) (.func (.func 25) #[] #[.pointer (some ⟨w1.heap.size + 1 + 1, 0, none⟩)]))
  clear C2 hp3 hs3 hi3 hp4
  go_wp2_with fail
  refine (CR _).mono ?_
  rintro e w4 ⟨rfl, rfl⟩
  simp only [World.size_alloc]
  rw [hw3]
  go_wp2
  go_ret2
  exact ⟨_, rfl, ⟨_, _, _, _, HOut.out, rfl⟩, HB5.out⟩

/-! ### Pick -/
theorem apick_neg (s : ByteArray) (b f m : Int) (h : m < 0) (w : World) :
    Calls Try.prog 7 #[.string s, .int .i64 b, .int .i64 f, .int .i64 m] w fun e w' => e = .returned (.tuple #[.slice none 0 0, .int .i64 0, .int .i64 100]) ∧ w = w' := by
  go_enter Try.func7, Try.ntmps7
  go_wp2
  go_ret3
  exact ⟨rfl, rfl⟩
theorem apick_bad (s : ByteArray) (b f m : Int) (h : badA b f = true) (w : World) :
    Calls Try.prog 7 #[.string s, .int .i64 b, .int .i64 f, .int .i64 m] w fun e w' => e = .returned (.tuple #[.slice none 0 0, .int .i64 0, .int .i64 100]) ∧ w = w' := by
  by_cases hm : m < 0
  · exact apick_neg s b f m hm w
  · have C := anew_no s b f h w
    go_enter Try.func7, Try.ntmps7
    go_wp2_with fail
    refine C.mono ?_
    rintro e w1 ⟨rfl, rfl⟩
    go_wp2
    go_ret3
    exact ⟨rfl, rfl⟩
theorem apick_full (s : ByteArray) (n f : Nat) (hs : s.size ≤ 140737488355328) (h1 : 8 ≤ n) (h2 : n ≤ 4096) (h3 : 1 ≤ f) (h4 : f ≤ n) (m : Int) (hm : ((ord s.data.toList n f).length : Int) < m) (w : World) :
    Calls Try.prog 7 #[.string s, .int .i64 n, .int .i64 f, .int .i64 m] w fun e w' => e = .returned (.tuple #[.slice none 0 0, .int .i64 0, .int .i64 101]) ∧ Below w.heap.size w w' := by
  have C := anew_yes s n f hs h1 h2 h3 h4 w
  have hm0 : ¬ m < 0 := by omega
  obtain ⟨L, hL⟩ : ∃ L, (ord s.data.toList n f).length = L := ⟨_, rfl⟩
  have CL := fun B F p w (h : PoolAt B F p s.data.toList n f 0 w) => left_any h
  rw [hL] at hm
  simp only [hL, Nat.sub_zero] at CL
  clear hL h1 h2 h3 h4
  go_enter Try.func7, Try.ntmps7
  go_wp2_with fail
  refine C.mono ?_
  rintro e w1 ⟨p, rfl, ⟨F, hp⟩, hB1⟩
  have HP := Lib.hid hp
  have HB1 := Lib.hid hB1
  clear hp hB1 C
  go_wp2_with fail
  refine (CL _ _ _ _ HP.out).mono ?_
  rintro e w2 ⟨rfl, rfl⟩
  go_wp2
  go_ret3
  exact ⟨rfl, HB1.out⟩
theorem pool_row {B p n f k : Nat} {F : Nat → Prop} {u : List UInt8} {w : World} (h : PoolAt B F p u n f k w) : ∃ v, w.cell? ⟨p, 3, none⟩ = some v ∧ w.ownsRow B 3 1 v k (ints ((ord u n f).take k)) ∧ ∃ a cap, v = .slice a k cap := by
  obtain ⟨sb, bp, v, h1, rfl⟩ := h
  have hlk : ((ord u n f).take k).length = k := by rw [List.length_take]; have := h1.le; omega
  have hr := h1.row
  rw [hlk] at hr
  refine ⟨v, PoolO.c3 h1.obj, hr, ?_⟩
  rcases hr.2 with ⟨rfl, h0⟩ | ⟨g, cap, cur, rfl, _⟩
  · exact ⟨none, 0, by rw [h0]⟩
  · exact ⟨_, _, rfl⟩
/-- so many were picked -/
def PickP (u : List UInt8) (n f m : Nat) (w : World) (e : Ending) (w' : World) : Prop := ∃ a cap, e = .returned (.tuple #[.slice a m cap, .int .i64 (placeAt (ord u n f) f m), .int .i64 0]) ∧ w'.ownsRow w.heap.size 3 1 (.slice a m cap) m (ints ((ord u n f).take m)) ∧ Below w.heap.size w w'
set_option maxRecDepth 100000 in
set_option maxHeartbeats 2000000 in
theorem apick_yes (s : ByteArray) (n f : Nat) (hs : s.size ≤ 140737488355328) (h1 : 8 ≤ n) (h2 : n ≤ 4096) (h3 : 1 ≤ f) (h4 : f ≤ n) (m : Nat) (hm : m ≤ (ord s.data.toList n f).length) (w : World) :
    Calls Try.prog 7 #[.string s, .int .i64 n, .int .i64 f, .int .i64 m] w fun e w' => PickP s.data.toList n f m w e w' := by
  have C := anew_yes s n f hs h1 h2 h3 h4 w
  have hm0 : ¬ (m : Int) < 0 := by omega
  have hl := length_frees s.data.toList n
  rw [← length_ord _ _ f] at hl
  obtain ⟨L, hL⟩ : ∃ L, (ord s.data.toList n f).length = L := ⟨_, rfl⟩
  have HL := Lib.hid hL
  have CL := fun B F p w (h : PoolAt B F p s.data.toList n f 0 w) => left_any h
  rw [hL] at hm hl
  simp only [hL, Nat.sub_zero] at CL
  have hmi : ¬ (L : Int) < (m : Int) := by omega
  have HM := Lib.hid (And.intro hm (show m ≤ 4096 by omega))
  have hm4 : (m : Int) ≤ 4096 := by omega
  have hdb : decide (L < m) = false := decide_eq_false (by omega)
  clear hL h1 h2 h3 h4 hl hm
  go_enter Try.func7, Try.ntmps7
  go_wp2_with fail
  refine C.mono ?_
  rintro e w1 ⟨p, rfl, ⟨F, hp⟩, hB1⟩
  have HP := Lib.hid hp
  have HB1 := Lib.hid hB1
  clear hp hB1 C
  go_wp2_with fail
  refine (CL _ _ _ _ HP.out).mono ?_
  rintro e w2 ⟨rfl, rfl⟩
  clear CL
  go_wp2_with fail
  go_loopw [30] (fun i wr => ∃ (j : Nat) (F : Nat → Prop), j ≤ m ∧ i = .int .i64 j ∧ Hid (PoolAt w.heap.size F p s.data.toList n f j wr) ∧ Hid (Below w.heap.size w wr)) (fun i _ => m - (intOf i).toNat)
  case atStart => exact ⟨0, F, Nat.zero_le _, rfl, HP, HB1⟩
  case round =>
    clear HP HB1
    obtain ⟨j, F, hj, rfl, HP, HB⟩ := hrel
    by_cases hlt : j < m
    · have hji : (j : Int) < (m : Int) := by omega
      have CT := take_yes HP.out (by have := HM.out.1; rw [HL.out]; omega)
      have HP0 := HP
      generalize (ord s.data.toList n f)[j]'_ = x at CT
      go_wp2_with fail
      refine CT.mono ?_
      rintro e w2 ⟨rfl, F', hp2, hs2, _⟩
      have HP2 := Lib.hid hp2
      have HB2 := Lib.hid (HB.out.trans (hs2.below (fun k hk => (HP0.out.lt hk).2) HB.out.size))
      clear hp2 hs2 CT
      go_wp2_with fail
      go_roundw
      case rel => exact ⟨j + 1, F', by omega, by go_num, HP2, HB2⟩
      case measure => simp [intOf]; omega
    · obtain rfl : j = m := by omega
      have hji : ¬ (j : Int) < (j : Int) := by omega
      obtain ⟨v, c3, hrow, a, cap, rfl⟩ := pool_row HP.out
      have HR := Lib.hid hrow
      have CN := fun W (h : PoolAt w.heap.size F p s.data.toList n f j W) => pnext_any h
      have HPd := Lib.hid (HP.out.later ((Below.refl _ _).drew))
      obtain ⟨P, hP⟩ : ∃ P, placeAt (ord s.data.toList n f) f j = P := ⟨_, rfl⟩
      rw [hP] at CN
      have HPp := Lib.hid hP
      clear hrow hlt hP
      go_wp2_with fail
      go_region_held3 (fun w' => w'.cell? ⟨p, 3, none⟩ = some (.slice a j cap)) (first | exact c3)
        (first | (go_at_call 15; refine (CN _ HPd.out).mono ?_; rintro e w2 ⟨rfl, rfl⟩))
      all_goals (
        go_wp2
        go_ret3
        exact ⟨a, cap, by rw [HPp.out]; rfl, HR.out, HB.out.drew⟩)
end Go.Proofs.Ytknfakaklmpboaa

