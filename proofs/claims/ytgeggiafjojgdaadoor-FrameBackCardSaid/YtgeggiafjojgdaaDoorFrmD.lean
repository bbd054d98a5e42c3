/-
  Whether a message may be; its bytes; what is read of bytes.
-/
import Derived.Test.YtgeggiafjojgdaaDoorFrmC
import Derived.Test.YtgeggiafjojgdaaDoorWirF
import Derived.Test.YtgeggiafjojgdaaDoorWirG
import Derived.Laws.ResultCell
namespace Go.Proofs.YtgeggiafjojgdaaDoor
open Go.RowKit Go

set_option maxRecDepth 100000 in
set_option maxHeartbeats 8000000 in
theorem may_any (f : Fr) (hf : FrIn f) : ∃ b : Bool, (b = true ↔ FrOk f) ∧ ∀ w : World,
    Calls Tryd.prog 13 #[frV f] w fun e w' => e = .returned (.bool b) ∧ Below w.heap.size w w' := by
  obtain ⟨b, hbe, -, hb⟩ := fr_eql f (nearF f)
  refine ⟨b, by rw [hb, nearF_iff], fun w => ?_⟩
  obtain ⟨w1, hw1⟩ : ∃ w1, w.alloc (FrObj f) = w1 := ⟨_, rfl⟩
  have hB1 : Below w.heap.size w w1 := by rw [← hw1]; exact (Below.refl _ w).alloc (Nat.le_refl _) _
  have ha1 : FrAt f w.heap.size w1 := by rw [← hw1]; exact .new _ _
  obtain ⟨d0, d1, d2, d3⟩ := ha1.drew.cells
  have CN := nearest_any f hf w1.drew
  have hgd := fun w => fr_guard f (nearF f) w
  generalize nearF f = R at *
  have HB1 := Lib.hid hB1
  have HA1 := Lib.hid ha1.drew
  unfold FrObj at hw1
  unfold frV at CN hgd hbe ⊢
  clear hB1 ha1 hb
  go_enter Tryd.func13, Tryd.ntmps13
  go_wp2_with fail
  go_region_held3 (fun w' => w'.cell? ⟨w.heap.size, 0, none⟩ = some (.int .i64 f.kind) ∧ w'.cell? ⟨w.heap.size, 1, none⟩ = some (.int .i64 f.ses) ∧ w'.cell? ⟨w.heap.size, 2, none⟩ = some (.int .i64 f.seq) ∧ w'.cell? ⟨w.heap.size, 3, none⟩ = some (.string f.body)) (first | exact ⟨d0, d1, d2, d3⟩ | exact ⟨x0, x1, x2, x3⟩)
    (first
      | (go_at_call 23; refine CN.mono ?_; rintro e w3 ⟨rfl, hB3⟩; have HB3 := Lib.hid hB3; obtain ⟨x0, x1, x2, x3⟩ := (HA1.out.later hB3).cells; clear hB3))
  all_goals (
    clear d0 d1 d2 d3 x0 x1 x2 x3 CN
    go_wp2
    go_ret
    exact ⟨rfl, HB1.out.trans ((show Below w1.heap.size w1 w3 from (Below.refl _ w1).drew.trans HB3.out).mono HB1.out.size)⟩)

theorem numW_ok {n : Int} (h0 : 0 ≤ n) (h1 : n ≤ 1073741824) : numW n = .tuple #[.string (bs (dg n.toNat)), .int .i64 0] := by
  have a : ¬ n < 0 := by omega
  have b : ¬ 4611686018427387903 < n := by omega
  unfold numW bad; simp [a, b]
theorem textW_ok {l : List UInt8} (h : l.length ≤ 65536) : textW l = .tuple #[.string (bs (dg l.length ++ l)), .int .i64 0] := by
  unfold textW; rw [if_pos h]
theorem lay_text {f : Fr} : bs (layF f) = bs (dg f.kind.toNat) ++ bs (dg f.ses.toNat) ++ bs (dg f.seq.toNat) ++ bs (dg f.body.size ++ f.body.data.toList) := by
  unfold layF; simp only [bs_append, ByteArray.append_assoc]
/-- the four parts of a message's bytes -/
theorem lay_parts {f : Fr} (h : FrOk f) : (bs (dg f.kind.toNat)).size ≤ 100 ∧ (bs (dg f.ses.toNat)).size ≤ 100 ∧ (bs (dg f.seq.toNat)).size ≤ 100 ∧ (bs (dg f.body.size ++ f.body.data.toList)).size ≤ 3000 := by
  have h1 := dg_len 0 f.kind.toNat (by have := h.k1; omega)
  have h2 := dg_len 4 f.ses.toNat (by have := h.s1; omega)
  have h3 := dg_len 4 f.seq.toNat (by have := h.q1; omega)
  have h4 := dg_len 1 f.body.size (by have := h.b; omega)
  have hb := h.b
  simp only [bs_size, List.length_append, body_len]
  omega
set_option maxRecDepth 100000 in
set_option maxHeartbeats 8000000 in
theorem flay_any (f : Fr) (h : FrOk f) (w : World) :
    Calls Tryd.prog 14 #[frV f] w fun e w' => e = .returned (.string (bs (layF f))) ∧ Below w.heap.size w w' := by
  obtain ⟨w1, hw1⟩ : ∃ w1, w.alloc (FrObj f) = w1 := ⟨_, rfl⟩
  have hB1 : Below w.heap.size w w1 := by rw [← hw1]; exact (Below.refl _ w).alloc (Nat.le_refl _) _
  have ha1 : FrAt f w.heap.size w1 := by rw [← hw1]; exact .new _ _
  obtain ⟨c0, c1, c2, c3⟩ := ha1.cells
  have C1 := fun w => wnum_any f.kind w
  have C2 := fun w => wnum_any f.ses w
  have C3 := fun w => wnum_any f.seq w
  have C4 := fun w => wtext_any f.body (by have := h.b; omega) w
  rw [numW_ok h.k0 (by have := h.k1; omega)] at C1
  rw [numW_ok h.s0 h.s1] at C2
  rw [numW_ok h.q0 h.q1] at C3
  rw [textW_ok (by rw [body_len]; have := h.b; omega), body_len] at C4
  obtain ⟨z1, z2, z3, z4⟩ := lay_parts h
  have HE := Lib.hid (lay_text (f := f))
  have HB1 := Lib.hid hB1
  have HA1 := Lib.hid ha1
  generalize bs (layF f) = R at *
  generalize bs (dg f.kind.toNat) = P1 at *
  generalize bs (dg f.ses.toNat) = P2 at *
  generalize bs (dg f.seq.toNat) = P3 at *
  generalize bs (dg f.body.size ++ f.body.data.toList) = P4 at *
  unfold FrObj at hw1
  unfold frV
  clear hB1 ha1 h
  go_enter Tryd.func14, Tryd.ntmps14
  go_wp2_with fail
  refine (C1 _).mono ?_
  rintro e w2 ⟨rfl, hB2⟩
  have HA2 := Lib.hid (HA1.out.later hB2)
  have HB2 := Lib.hid (HB1.out.trans (hB2.mono HB1.out.size))
  obtain ⟨y0, y1, y2, y3⟩ := HA2.out.cells
  clear hB2 C1 c0 c1 c2 c3
  go_wp2_with fail
  refine (C2 _).mono ?_
  rintro e w3 ⟨rfl, hB3⟩
  have HA3 := Lib.hid (HA2.out.later hB3)
  have HB3 := Lib.hid (HB2.out.trans (hB3.mono HB2.out.size))
  clear hB3 C2 y0 y1 y2 y3
  obtain ⟨y0, y1, y2, y3⟩ := HA3.out.cells
  go_wp2_with fail
  refine (C3 _).mono ?_
  rintro e w4 ⟨rfl, hB4⟩
  have HA4 := Lib.hid (HA3.out.later hB4)
  have HB4 := Lib.hid (HB3.out.trans (hB4.mono HB3.out.size))
  clear hB4 C3 y0 y1 y2 y3
  obtain ⟨y0, y1, y2, y3⟩ := HA4.out.cells
  go_wp2_with fail
  refine (C4 _).mono ?_
  rintro e w5 ⟨rfl, hB5⟩
  have HB5 := Lib.hid (HB4.out.trans (hB5.mono HB4.out.size))
  have n1 : ¬ 9223372036854775807 < P1.size + P2.size := by omega
  have n2 : ¬ 9223372036854775807 < (P1 ++ P2).size + P3.size := by rw [ByteArray.size_append]; omega
  have n3 : ¬ 9223372036854775807 < (P1 ++ P2 ++ P3).size + P4.size := by rw [ByteArray.size_append, ByteArray.size_append]; omega
  clear hB5 C4 y0 y1 y2 y3 z1 z2 z3 z4
  go_wp2
  go_ret
  exact ⟨by rw [HE.out]; rfl, HB5.out⟩
end Go.Proofs.YtgeggiafjojgdaaDoor

