/-
  What is read of bytes; Seal and Open.
-/
import Derived.Test.YtgeggiafjojgdaaDoorFrmD
namespace Go.Proofs.YtgeggiafjojgdaaDoor
open Go.RowKit Go

section
variable {f : Fr} {b : Nat} {w : World}
theorem FrAt.set0 (h : FrAt f b w) (x : Int) : FrAt ⟨x, f.ses, f.seq, f.body⟩ b (w.setCell ⟨b, 0, none⟩ (.int .i64 x)) := ⟨by have := h.obj; unfold FrObj at this ⊢; rw [heap_set this]; rfl⟩
theorem FrAt.set1 (h : FrAt f b w) (x : Int) : FrAt ⟨f.kind, x, f.seq, f.body⟩ b (w.setCell ⟨b, 1, none⟩ (.int .i64 x)) := ⟨by have := h.obj; unfold FrObj at this ⊢; rw [heap_set this]; rfl⟩
theorem FrAt.set2 (h : FrAt f b w) (x : Int) : FrAt ⟨f.kind, f.ses, x, f.body⟩ b (w.setCell ⟨b, 2, none⟩ (.int .i64 x)) := ⟨by have := h.obj; unfold FrObj at this ⊢; rw [heap_set this]; rfl⟩
theorem FrAt.set3 (h : FrAt f b w) (x : ByteArray) : FrAt ⟨f.kind, f.ses, f.seq, x⟩ b (w.setCell ⟨b, 3, none⟩ (.string x)) := ⟨by have := h.obj; unfold FrObj at this ⊢; rw [heap_set this]; rfl⟩
end
/-- what a reading goes by: the message so far, the reader -/
structure Rdg (w0 : World) (q b : Nat) (g : Fr) (r : Rd) (W : World) : Prop where
  at_ : FrAt g q W
  rd : W.heap[b]? = some (RO r)
  ge : GE W
  below : Below w0.heap.size w0 W
  q0 : w0.heap.size ≤ q
  b0 : w0.heap.size ≤ b
  ne : b ≠ q
section
variable {w0 W W' : World} {q b : Nat} {g : Fr} {r r' : Rd}
theorem Rdg.moved (h : Rdg w0 q b g r W) (hg0 : GE w0) (m : Moved b (RO r') W W') : Rdg w0 q b g r' W' :=
  ⟨⟨m.other h.at_.obj (fun e => h.ne e.symm)⟩, m.here, hg0.below (h.below.trans (m.below h.b0 h.below.size)), h.below.trans (m.below h.b0 h.below.size), h.q0, h.b0, h.ne⟩
theorem Rdg.nb (h : Rdg w0 q b g r W) (hg0 : GE w0) : b ≠ 0 := by
  have := hg0.lt
  have := h.b0
  omega
theorem Rdg.later (h : Rdg w0 q b g r W) (hg0 : GE w0) (m : Below W.heap.size W W') : Rdg w0 q b g r W' :=
  have hb := h.below.trans (m.mono h.below.size)
  ⟨h.at_.later m, keeps_of m h.rd, hg0.below hb, hb, h.q0, h.b0, h.ne⟩
theorem Rdg.stored {g' : Fr} (h : Rdg w0 q b g r W) (hg0 : GE w0) {i : Nat} {x : Value} (ha : FrAt g' q (W.setCell ⟨q, i, none⟩ x)) : Rdg w0 q b g' r (W.setCell ⟨q, i, none⟩ x) :=
  have hb : Below w0.heap.size w0 (W.setCell ⟨q, i, none⟩ x) := h.below.setCell (p := ⟨q, i, none⟩) h.q0 x
  ⟨ha, heap_set_other h.rd h.ne x, hg0.below hb, hb, h.q0, h.b0, h.ne⟩
end
def maxI : Int := 9223372036854775807
set_option maxRecDepth 100000 in
set_option maxHeartbeats 8000000 in
theorem fread_any (s : ByteArray) (hs : s.size ≤ 281474976710656) (w : World) (hg : GE w) :
    Calls Tryd.prog 18 #[.string s] w fun e w' => e = .returned (.tuple #[frV (frR s.data.toList maxI), .int .i64 (frE s.data.toList maxI)]) ∧ Below w.heap.size w w' := by
  obtain ⟨l, hl⟩ : ∃ l, s.data.toList = l := ⟨_, rfl⟩
  rw [hl]
  have hln : l.length ≤ 281474976710656 := by rw [← hl]; simpa using hs
  obtain ⟨l1, l2, l3⟩ := rest_le l maxI
  obtain ⟨w1, hw1⟩ : ∃ w1, w.alloc (FrObj fr0) = w1 := ⟨_, rfl⟩
  have hB1 : Below w.heap.size w w1 := by rw [← hw1]; exact (Below.refl _ w).alloc (Nat.le_refl _) _
  have ha1 : FrAt fr0 w.heap.size w1 := by rw [← hw1]; exact .new _ _
  have CN := rnew_any s w1
  have HG := Lib.hid hg
  have HB1 := Lib.hid hB1
  have HA1 := Lib.hid ha1
  obtain ⟨R, hR⟩ : ∃ R, frR l maxI = R := ⟨_, rfl⟩
  obtain ⟨E, hE⟩ : ∃ E, frE l maxI = E := ⟨_, rfl⟩
  obtain ⟨p1, hp1⟩ : ∃ p, rd1 l maxI = p := ⟨_, rfl⟩
  obtain ⟨p2, hp2⟩ : ∃ p, rd2 l maxI = p := ⟨_, rfl⟩
  obtain ⟨p3, hp3⟩ : ∃ p, rd3 l maxI = p := ⟨_, rfl⟩
  obtain ⟨p4, hp4⟩ : ∃ p, rd4 l maxI = p := ⟨_, rfl⟩
  rw [hp1] at l1
  rw [hp2] at l2
  rw [hp3] at l3
  have HR := Lib.hid (show R = ⟨p1.1, p2.1, p3.1, bs p4.1⟩ by rw [← hR, ← hp1, ← hp2, ← hp3, ← hp4]; rfl)
  have HE := Lib.hid (show endR p4.2 = E by rw [← hE, ← hp4]; rfl)
  have HP1 := Lib.hid (show numR ⟨l, 0⟩ maxI = p1 from hp1)
  have HP2 := Lib.hid (show numR p1.2 maxI = p2 by rw [← hp1]; exact hp2)
  have HP3 := Lib.hid (show numR p2.2 maxI = p3 by rw [← hp2]; exact hp3)
  have HP4 := Lib.hid (show textR p3.2 65536 = p4 by rw [← hp3]; exact hp4)
  have HX := Lib.hid (show bs l = s by rw [← hl]; rfl)
  rw [hR, hE]
  have HL := Lib.hid (And.intro hln (And.intro l1 (And.intro l2 l3)))
  unfold FrObj fr0 at hw1
  simp only at hw1
  clear hB1 ha1 hR hE hp1 hp2 hp3 hp4 hl hg hln l1 l2 l3
  go_enter Tryd.func18, Tryd.ntmps18
  go_wp2_with fail
  refine CN.mono ?_
  rintro e w2 ⟨b, rfl, hb, hr, hB2⟩
  have HD := Lib.hid (show Rdg w w.heap.size b fr0 ⟨l, 0⟩ w2 from
    have hb2 := HB1.out.trans (hB2.mono HB1.out.size)
    ⟨HA1.out.later hB2, by rw [hr, RO, HX.out], HG.out.below hb2, hb2, Nat.le_refl _, Nat.le_trans HB1.out.size hb, by have := HA1.out.lt; omega⟩)
  clear hb hr hB2 CN hw1
  have C1 := qnum_any b (HD.out.nb HG.out) ⟨l, 0⟩ maxI HL.out.1 w2 HD.out.ge HD.out.rd
  rw [HP1.out] at C1
  unfold maxI numV at C1
  go_wp2_with fail
  refine C1.mono ?_
  rintro e w3 ⟨rfl, hM⟩
  have h3 := HD.out.moved HG.out hM
  obtain ⟨c0, -, -, -⟩ := h3.at_.cells
  have f0 := h3.at_.fr 0
  obtain ⟨w4, hw4⟩ : ∃ w4, w3.setCell ⟨w.heap.size, 0, none⟩ (.int .i64 p1.1) = w4 := ⟨_, rfl⟩
  have HD2 := Lib.hid (show Rdg w w.heap.size b ⟨p1.1, 0, 0, ⟨#[]⟩⟩ p1.2 w4 by rw [← hw4]; exact h3.stored HG.out (h3.at_.set0 _))
  clear hM h3 C1
  have C2 := qnum_any b (HD2.out.nb HG.out) p1.2 maxI (Nat.le_trans HL.out.2.1 HL.out.1) w4 HD2.out.ge HD2.out.rd
  rw [HP2.out] at C2
  unfold maxI numV at C2
  unfold fr0 at c0
  simp only at c0
  go_wp2_with fail
  refine C2.mono ?_
  rintro e w5 ⟨rfl, hM⟩
  have h5 := HD2.out.moved HG.out hM
  obtain ⟨-, d0, -, -⟩ := h5.at_.cells
  have f1 := h5.at_.fr 1
  obtain ⟨w6, hw6⟩ : ∃ w6, w5.setCell ⟨w.heap.size, 1, none⟩ (.int .i64 p2.1) = w6 := ⟨_, rfl⟩
  have HD3 := Lib.hid (show Rdg w w.heap.size b ⟨p1.1, p2.1, 0, ⟨#[]⟩⟩ p2.2 w6 by rw [← hw6]; exact h5.stored HG.out (h5.at_.set1 _))
  clear hM h5 C2 c0 f0 hw4
  have C3 := qnum_any b (HD3.out.nb HG.out) p2.2 maxI (Nat.le_trans HL.out.2.2.1 HL.out.1) w6 HD3.out.ge HD3.out.rd
  rw [HP3.out] at C3
  unfold maxI numV at C3
  simp only at d0
  go_wp2_with fail
  refine C3.mono ?_
  rintro e w7 ⟨rfl, hM⟩
  have h7 := HD3.out.moved HG.out hM
  obtain ⟨-, -, c0, -⟩ := h7.at_.cells
  have f2 := h7.at_.fr 2
  obtain ⟨w8, hw8⟩ : ∃ w8, w7.setCell ⟨w.heap.size, 2, none⟩ (.int .i64 p3.1) = w8 := ⟨_, rfl⟩
  have HD4 := Lib.hid (show Rdg w w.heap.size b ⟨p1.1, p2.1, p3.1, ⟨#[]⟩⟩ p3.2 w8 by rw [← hw8]; exact h7.stored HG.out (h7.at_.set2 _))
  clear hM h7 C3 d0 f1 hw6
  have C4 := qtext_any b (HD4.out.nb HG.out) p3.2 65536 (Nat.le_trans HL.out.2.2.2 HL.out.1) w8 HD4.out.ge HD4.out.rd
  rw [HP4.out] at C4
  unfold textV at C4
  simp only at c0
  go_wp2_with fail
  refine C4.mono ?_
  rintro e w9 ⟨rfl, hM⟩
  have h9 := HD4.out.moved HG.out hM
  obtain ⟨-, -, -, d0⟩ := h9.at_.cells
  have f3 := h9.at_.fr 3
  obtain ⟨wa, hwa⟩ : ∃ wa, w9.setCell ⟨w.heap.size, 3, none⟩ (.string (bs p4.1)) = wa := ⟨_, rfl⟩
  have HD5 := Lib.hid (show Rdg w w.heap.size b R p4.2 wa by rw [← hwa, HR.out]; exact h9.stored HG.out (h9.at_.set3 _))
  clear hM h9 C4 c0 f2 hw8
  simp only at d0
  go_wp2_with fail
  clear d0 f3 hwa
  have HD6 := Lib.hid (show Rdg w w.heap.size b R p4.2 wa.drew from ⟨HD5.out.at_.drew, HD5.out.rd, HD5.out.ge, HD5.out.below.drew, HD5.out.q0, HD5.out.b0, HD5.out.ne⟩)
  have CE := qend_any b p4.2 wa.drew HD6.out.ge HD6.out.rd
  rw [HE.out] at CE
  obtain ⟨g0, g1, g2, g3⟩ := HD6.out.at_.cells
  clear HR
  go_region_held3 (fun w' => w'.cell? ⟨w.heap.size, 0, none⟩ = some (.int .i64 R.kind) ∧ w'.cell? ⟨w.heap.size, 1, none⟩ = some (.int .i64 R.ses) ∧ w'.cell? ⟨w.heap.size, 2, none⟩ = some (.int .i64 R.seq) ∧ w'.cell? ⟨w.heap.size, 3, none⟩ = some (.string R.body)) (first | exact ⟨g0, g1, g2, g3⟩ | exact ⟨x0, x1, x2, x3⟩ | exact ⟨y0, y1, y2, y3⟩)
    (first
      | (go_at_call 31; refine CE.mono ?_; rintro e wb ⟨rfl, hBb⟩; have HD7 := Lib.hid (HD6.out.later HG.out hBb); obtain ⟨x0, x1, x2, x3⟩ := HD7.out.at_.cells; obtain ⟨u1, u2, u3, u4, ⟨e1, e2, e3, e4⟩, ⟨c1, c2, c3, c4⟩, ⟨k1, k2, k3, k4⟩, ha5, hs5⟩ := fr_store R HD7.out.at_; obtain ⟨y0, y1, y2, y3⟩ := ha5.cells; have HS5 := Lib.hid hs5; clear hBb hs5 ha5))
  all_goals (
    clear g0 g1 g2 g3 x0 x1 x2 x3 CE
    go_wp2
    refine bodyPost_ret ?_ rfl ⟨rfl, HD7.out.below.trans (HS5.out.below (fun i hi => by subst hi; exact Nat.le_refl _) HD7.out.below.size)⟩
    rw [results_cell_tmp rfl]
    go_simp
    try rfl)
end Go.Proofs.YtgeggiafjojgdaaDoor

