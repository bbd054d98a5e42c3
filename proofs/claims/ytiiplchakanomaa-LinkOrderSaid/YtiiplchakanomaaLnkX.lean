/-
  A link of a law's own; the calls whose answers the document fixes.
-/
import Derived.Test.YtiiplchakanomaaLnkC
namespace Go.Proofs.Ytiiplchakanomaa
open Go.RowKit Go

/-- a link that a law has made: all of its blocks are new -/
structure LG (w0 : World) (room : Nat) (L : List ByteArray) (T : List Lte) (b : Nat) (G : Nat → Prop) (w : World) : Prop where
  link : ∃ v u, LAt room L T b v u G w
  ge : ∀ k, G k → w0.heap.size ≤ k
  below : Below w0.heap.size w0 w
section
variable {w0 w w' : World} {b room : Nat} {L : List ByteArray} {T : List Lte} {G : Nat → Prop}
theorem LG.lt (h : LG w0 room L T b G w) : ∀ k, G k → k < w.heap.size := by
  obtain ⟨v, u, h1⟩ := h.link
  exact h1.lt
theorem LG.later (h : LG w0 room L T b G w) (hB : Below w.heap.size w w') : LG w0 room L T b G w' := by
  obtain ⟨v, u, h1⟩ := h.link
  exact ⟨⟨v, u, h1.later hB⟩, h.ge, h.below.trans (hB.mono h.below.size)⟩
/-- what turns none of its blocks, nor one that was there ahead -/
theorem LG.keep {F : Nat → Prop} (h : LG w0 room L T b G w) (hs : Stir F w w') (hF : ∀ k, G k → ¬ F k) (hg : ∀ k, F k → w0.heap.size ≤ k) : LG w0 room L T b G w' := by
  obtain ⟨v, u, h1⟩ := h.link
  exact ⟨⟨v, u, h1.keep hs hF⟩, h.ge, h.below.trans (hs.below hg h.below.size)⟩
/-- a link behind a call -/
def LD (w0 : World) (room : Nat) (L : List ByteArray) (T : List Lte) (b : Nat) (G : Nat → Prop) (w w' : World) : Prop :=
  ∃ G', LG w0 room L T b G' w' ∧ (∀ k, G' k → G k ∨ w.heap.size ≤ k) ∧ Stir G w w'
theorem LG.of_put {L' : List ByteArray} {T' : List Lte} (h : LG w0 room L T b G w) (k : LPut room L' T' b G w w') : LD w0 room L' T' b G w w' := by
  obtain ⟨v, u, G', h1, h2, h3⟩ := k
  exact ⟨G', ⟨⟨v, u, h1⟩, fun k hk => (h2 k hk).elim (h.ge k) (Nat.le_trans h.below.size), h.below.trans (h3.below h.ge h.below.size)⟩, h2, h3⟩
theorem lg_send (h : LG w0 room L T b G w) (hr : room ≤ 4096) (hT : T.length ≤ 100000) (s : ByteArray) (hs : s.size ≤ 140737488351232) (f : Fte) (h9 : f.n ≤ 9223372036854775807) :
    Calls Try.prog 9 #[.pointer (some ⟨b, 0, none⟩), .string s, fteV f] w fun e w' => e = .returned (.int .i64 (sendE f)) ∧ LD w0 room (sendL room L s f) (sendT T s f) b G w w' := by
  obtain ⟨v, u, h1⟩ := h.link
  exact (send_any h1 hr hT s hs f h9).mono fun e w' k => ⟨k.1, h.of_put k.2⟩
theorem lg_step (h : LG w0 room L T b G w) (hr : room ≤ 4096) (hT : T.length ≤ 100000) (hL : LateOk T) :
    Calls Try.prog 11 #[.pointer (some ⟨b, 0, none⟩)] w fun e w' => e = .returned (.tuple #[]) ∧ LD w0 room (stepL room L T) (leftT T) b G w w' := by
  obtain ⟨v, u, h1⟩ := h.link
  exact (step_any h1 hr hT hL).mono fun e w' k => ⟨k.1, h.of_put k.2⟩
theorem lg_take (h : LG w0 room L T b G w) (hn : L.length ≤ 4096) :
    Calls Try.prog 13 #[.pointer (some ⟨b, 0, none⟩)] w fun e w' => e = .returned (.tuple #[.string (L.headD ⟨#[]⟩), .bool (!L.isEmpty)]) ∧ LD w0 room L.tail T b G w w' := by
  obtain ⟨v, u, h1⟩ := h.link
  exact (taken_any h1 hn).mono fun e w' k => ⟨k.1, h.of_put k.2⟩
theorem lg_cut (h : LG w0 room L T b G w) :
    Calls Try.prog 15 #[.pointer (some ⟨b, 0, none⟩)] w fun e w' => e = .returned (.tuple #[]) ∧ LD w0 room [] [] b G w w' := by
  obtain ⟨v, u, h1⟩ := h.link
  exact (cut_any h1).mono fun e w' k => ⟨k.1, h.of_put k.2⟩
theorem lg_waits (h : LG w0 room L T b G w) :
    Calls Try.prog 16 #[.pointer (some ⟨b, 0, none⟩)] w fun e w' => e = .returned (.tuple #[.int .i64 L.length, .int .i64 T.length]) ∧ Below w.heap.size w w' := by
  obtain ⟨v, u, h1⟩ := h.link
  exact waits_any h1
theorem lg_new (room : Nat) (h1 : 1 ≤ room) (h2 : room ≤ 4096) (hB : Below w0.heap.size w0 w) :
    Calls Try.prog 7 #[.int .i64 room] w fun e w' => e = .returned (.tuple #[.pointer (some ⟨w.heap.size, 0, none⟩), .int .i64 0]) ∧ LG w0 room [] [] w.heap.size (fun k => k = w.heap.size) w' ∧ Below w.heap.size w w' := by
  refine (new_yes room h1 h2 w).mono fun e w' ⟨he, hB', v, u, h⟩ => ⟨he, ⟨⟨v, u, h⟩, fun k hk => ?_, hB.trans (hB'.mono hB.size)⟩, hB'⟩
  rw [show k = w.heap.size from hk]
  exact hB.size
end
theorem fx_turn : turnB ⟨#[97, 98]⟩ 3 1 = ⟨#[97, 99]⟩ := by decide +kernel
set_option maxRecDepth 100000 in
set_option maxHeartbeats 8000000 in
theorem fixed_any (w : World) :
    Calls Try.prog 8 #[] w fun e w' => e = .returned (.bool true) ∧ Below w.heap.size w w' := by
  have C0 := lg_new (w0 := w) 5 (by decide) (by decide) (Below.refl _ w)
  rw [show ((5 : Nat) : Int) = 5 from rfl] at C0
  obtain ⟨b, hb⟩ : ∃ b, w.heap.size = b := ⟨_, rfl⟩
  have HB := Lib.hid hb
  rw [hb] at C0
  go_enter Try.func8, Try.ntmps8
  go_wp2_with fail
  refine C0.mono ?_
  rintro e w1 ⟨rfl, h1, -⟩
  have CN := new_no 0 (.inl (by decide)) w1
  have H1 := Lib.hid h1
  clear C0 h1 hb
  go_wp2_with fail
  refine CN.mono ?_
  rintro e w2 ⟨rfl, rfl⟩
  clear CN
  have C := lg_send H1.out (by decide) (by decide) ⟨#[97]⟩ (by decide) ⟨3, 1, 0⟩ (by decide)
  rw [show sendE ⟨3, 1, 0⟩ = 0 from by decide +kernel] at C
  unfold fteV at C
  simp only at C
  go_wp2_with fail
  refine C.mono ?_
  rintro e v2 ⟨rfl, G2, h, -, -⟩
  have K2 : Hid (LG w 5 [] [(⟨#[97]⟩, 1)] b G2 v2) := Lib.hid h
  clear C h H1
  have C := lg_send K2.out (by decide) (by decide) ⟨#[98]⟩ (by decide) ⟨0, 0, 0⟩ (by decide)
  rw [show sendE ⟨0, 0, 0⟩ = 0 from by decide +kernel] at C
  unfold fteV at C
  simp only at C
  go_wp2_with fail
  refine C.mono ?_
  rintro e v3 ⟨rfl, G3, h, -, -⟩
  have K3 : Hid (LG w 5 [⟨#[98]⟩] [(⟨#[97]⟩, 1)] b G3 v3) := Lib.hid h
  clear C h K2
  have C := lg_take K3.out (by decide)
  go_wp2_with fail
  refine C.mono ?_
  rintro e v4 ⟨rfl, G4, h, -, -⟩
  have K4 : Hid (LG w 5 [] [(⟨#[97]⟩, 1)] b G4 v4) := Lib.hid h
  clear C h K3
  have C := lg_take K4.out (by decide)
  go_wp2_with fail
  refine C.mono ?_
  rintro e v5 ⟨rfl, G5, h, -, -⟩
  have K5 : Hid (LG w 5 [] [(⟨#[97]⟩, 1)] b G5 v5) := Lib.hid h
  clear C h K4
  have C := lg_step K5.out (by decide) (by decide) (by unfold LateOk; decide)
  go_wp2_with fail
  refine C.mono ?_
  rintro e v6 ⟨rfl, G6, h, -, -⟩
  have K6 : Hid (LG w 5 [⟨#[97]⟩] [] b G6 v6) := Lib.hid h
  clear C h K5
  have C := lg_take K6.out (by decide)
  go_wp2_with fail
  refine C.mono ?_
  rintro e v7 ⟨rfl, G7, h, -, -⟩
  have K7 : Hid (LG w 5 [] [] b G7 v7) := Lib.hid h
  clear C h K6
  have C := lg_send K7.out (by decide) (by decide) ⟨#[97, 98]⟩ (by decide) ⟨4, 3, 1⟩ (by decide)
  rw [show sendE ⟨4, 3, 1⟩ = 0 from by decide +kernel] at C
  unfold fteV at C
  simp only at C
  go_wp2_with fail
  refine C.mono ?_
  rintro e v8 ⟨rfl, G8, h, -, -⟩
  have K8 : Hid (LG w 5 [⟨#[97, 99]⟩] [] b G8 v8) := Lib.hid h
  clear C h K7
  have C := lg_take K8.out (by decide)
  go_wp2_with fail
  refine C.mono ?_
  rintro e v9 ⟨rfl, G9, h, -, -⟩
  have K9 : Hid (LG w 5 [] [] b G9 v9) := Lib.hid h
  clear C h K8
  have C := lg_send K9.out (by decide) (by decide) ⟨#[120]⟩ (by decide) ⟨5, 0, 0⟩ (by decide)
  rw [show sendE ⟨5, 0, 0⟩ = 180 from by decide +kernel] at C
  unfold fteV at C
  simp only at C
  go_wp2_with fail
  refine C.mono ?_
  rintro e v10 ⟨rfl, G10, h, -, -⟩
  have K10 : Hid (LG w 5 [] [] b G10 v10) := Lib.hid h
  clear C h K9
  go_wp2
  go_ret
  exact ⟨rfl, K10.out.below⟩
end Go.Proofs.Ytiiplchakanomaa

