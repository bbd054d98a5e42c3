/-
  The calls whose answers the document fixes.
-/
import Derived.Test.YtmlemgifejefiaaPipIC
import Derived.Test.YtmlemgifejefiaaPipSC
namespace Go.Proofs.Ytmlemgifejefiaa
open Go.RowKit Go

theorem below_turn {w0 w w' : World} {p c : Nat} (hB : Below w0.heap.size w0 w) (hp : w0.heap.size ≤ p) (hc : w0.heap.size ≤ c) (hs : Stir (fun k => k = p ∨ k = c) w w') : Below w0.heap.size w0 w' :=
  hB.trans (hs.below (fun k e => by rcases e with rfl | rfl; exact hp; exact hc) hB.size)
theorem below_turn2 {w0 w w' : World} {p c q d : Nat} (hB : Below w0.heap.size w0 w) (hp : w0.heap.size ≤ p) (hc : w0.heap.size ≤ c) (hq : w0.heap.size ≤ q) (hd : w0.heap.size ≤ d)
    (hs : Stir (fun k => (k = p ∨ k = c) ∨ (k = q ∨ k = d)) w w') : Below w0.heap.size w0 w' :=
  hB.trans (hs.below (fun k e => by rcases e with (rfl | rfl) | (rfl | rfl); exact hp; exact hc; exact hq; exact hd) hB.size)

set_option maxRecDepth 100000 in
set_option maxHeartbeats 2000000 in
theorem fixed_any (w : World) : Calls Try.prog 9 #[] w fun e w' => e = .returned (.bool true) ∧ Below w.heap.size w w' := by
  go_enter Try.func9, Try.ntmps9
  go_wp2_with fail
  refine (PI.new_any 2 (by omega) (by omega) _).mono ?_
  rintro e w1 ⟨p, c, rfl, hp, lp, lc, B1⟩
  go_wp2_with fail
  refine (PI.new_any 1 (by omega) (by omega) _).mono ?_
  rintro e w2 ⟨q, d, rfl, hq, lq, ld, B2⟩
  have hn : PI.Two p c q d := ⟨by have := hp.lt_p; omega, by have := hp.lt_c; omega⟩
  have hp2 := hp.later B2
  have lq2 : w.heap.size ≤ q := Nat.le_trans B1.size lq
  have ld2 : w.heap.size ≤ d := Nat.le_trans B1.size ld
  have B3 := B1.trans (B2.mono B1.size)
  clear hp B1 B2 lq ld
  go_wp2_with fail
  refine (PS.new_bad 0 (by omega) _).mono ?_
  rintro e w3 ⟨rfl, B4⟩
  have P3 := Lib.hid (hp2.later B4)
  have Q3 := Lib.hid (hq.later B4)
  have B5 := Lib.hid (B3.trans (B4.mono B3.size))
  have HN := Lib.hid hn
  clear hp2 hq B3 B4 hn
  go_wp2_with fail
  refine (PI.send_room P3.out (by decide) 5).mono ?_
  rintro e w104 ⟨rfl, h, hs⟩
  have P4 := Lib.hid h
  have Q4 := Lib.hid (Q3.out.other P3.out HN.out.symm hs)
  have B6 := Lib.hid (below_turn B5.out lp lc hs)
  clear h hs P3 Q3 B5
  go_wp2_with fail
  refine (PI.send_room P4.out (by decide) 6).mono ?_
  rintro e w105 ⟨rfl, h, hs⟩
  have P5 := Lib.hid h
  have Q5 := Lib.hid (Q4.out.other P4.out HN.out.symm hs)
  have B7 := Lib.hid (below_turn B6.out lp lc hs)
  clear h hs P4 Q4 B6
  go_wp2_with fail
  refine (PI.send_full P5.out rfl 7).mono ?_
  rintro e w106 ⟨rfl, hB⟩
  have P6 := Lib.hid (P5.out.later hB)
  have Q6 := Lib.hid (Q5.out.later hB)
  have B8 := Lib.hid (B7.out.trans (hB.mono B7.out.size))
  clear hB P5 Q5 B7
  go_wp2_with fail
  refine (PI.take_some P6.out).mono ?_
  rintro e w107 ⟨rfl, h, hs⟩
  have P7 := Lib.hid h
  have Q7 := Lib.hid (Q6.out.other P6.out HN.out.symm hs)
  have B9 := Lib.hid (below_turn B8.out lp lc hs)
  clear h hs P6 Q6 B8
  go_wp2_with fail
  refine (PI.send_room Q7.out (by decide) 8).mono ?_
  rintro e w108 ⟨rfl, h, hs⟩
  have Q8 := Lib.hid h
  have P8 := Lib.hid (P7.out.other Q7.out HN.out hs)
  have B10 := Lib.hid (below_turn B9.out lq2 ld2 hs)
  clear h hs P7 Q7 B9
  go_wp2_with fail
  refine (PI.either_first P8.out q).mono ?_
  rintro e w109 ⟨rfl, h, hs⟩
  have P9 := Lib.hid h
  have Q9 := Lib.hid (Q8.out.other P8.out HN.out.symm hs)
  have B11 := Lib.hid (below_turn B10.out lp lc hs)
  clear h hs P8 Q8 B10
  go_wp2_with fail
  refine (PI.either_second P9.out Q9.out).mono ?_
  rintro e w110 ⟨rfl, h, hs⟩
  have Q10 := Lib.hid h
  have P10 := Lib.hid (P9.out.other Q9.out HN.out hs)
  have B12 := Lib.hid (below_turn B11.out lq2 ld2 hs)
  clear h hs P9 Q9 B11
  go_wp2_with fail
  refine (PI.either_none P10.out Q10.out).mono ?_
  rintro e w' ⟨rfl, rfl⟩
  go_wp2_with fail
  refine (PI.close_any P10.out).mono ?_
  rintro e w111 ⟨rfl, h, hs⟩
  have P11 := Lib.hid h
  have Q11 := Lib.hid (Q10.out.other P10.out HN.out.symm hs)
  have B13 := Lib.hid (below_turn B12.out lp lc hs)
  clear h hs P10 Q10 B12
  go_wp2_with fail
  refine (PI.close_any P11.out).mono ?_
  rintro e w112 ⟨rfl, h, hs⟩
  have P12 := Lib.hid h
  have Q12 := Lib.hid (Q11.out.other P11.out HN.out.symm hs)
  have B14 := Lib.hid (below_turn B13.out lp lc hs)
  clear h hs P11 Q11 B13
  go_wp2_with fail
  refine (PI.send_shut P12.out 1).mono ?_
  rintro e w113 ⟨rfl, hB⟩
  have P13 := Lib.hid (P12.out.later hB)
  have Q13 := Lib.hid (Q12.out.later hB)
  have B15 := Lib.hid (B14.out.trans (hB.mono B14.out.size))
  clear hB P12 Q12 B14
  go_wp2_with fail
  refine (PI.len_any P13.out).mono ?_
  rintro e w' ⟨rfl, rfl⟩
  go_wp2_with fail
  go_ret
  exact ⟨rfl, B15.out⟩
end Go.Proofs.Ytmlemgifejefiaa
