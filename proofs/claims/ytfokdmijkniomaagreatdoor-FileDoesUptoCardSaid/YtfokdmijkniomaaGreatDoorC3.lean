/-
  CmdG / CmdH / CmdI.
-/
import Derived.Test.YtfokdmijkniomaaGreatDoorC2
import Derived.Test.YtfokdmijkniomaaGreatDoorKG
namespace Go.Proofs.YtfokdmijkniomaaGreatDoor
open Go.RowKit Go

/-- a command is stored, cell by cell -/
theorem cmd_store {z : Cmd} (c : Cmd) {b : Nat} {w : World} (h : CmdAt z b w) : ∃ u1 u2 u3 u4 u5,
    (w.setCell ⟨b, 0, none⟩ (.int .i64 c.kind) = u1 ∧ u1.setCell ⟨b, 1, none⟩ (.string c.path) = u2 ∧ u2.setCell ⟨b, 2, none⟩ (.string c.dest) = u3 ∧ u3.setCell ⟨b, 3, none⟩ (.int .i64 c.place) = u4 ∧ u4.setCell ⟨b, 4, none⟩ (.string c.data) = u5) ∧
    (w.cell? ⟨b, 0, none⟩ = some (.int .i64 z.kind) ∧ u1.cell? ⟨b, 1, none⟩ = some (.string z.path) ∧ u2.cell? ⟨b, 2, none⟩ = some (.string z.dest) ∧ u3.cell? ⟨b, 3, none⟩ = some (.int .i64 z.place) ∧ u4.cell? ⟨b, 4, none⟩ = some (.string z.data)) ∧
    (w.frozen? ⟨b, 0, none⟩ = false ∧ u1.frozen? ⟨b, 1, none⟩ = false ∧ u2.frozen? ⟨b, 2, none⟩ = false ∧ u3.frozen? ⟨b, 3, none⟩ = false ∧ u4.frozen? ⟨b, 4, none⟩ = false) ∧ CmdAt c b u5 ∧ Stir (fun i => i = b) w u5 := by
  obtain ⟨h⟩ := h
  unfold CmdObj at h
  obtain ⟨u1, e1⟩ : ∃ u, w.setCell ⟨b, 0, none⟩ (.int .i64 c.kind) = u := ⟨_, rfl⟩
  have h1 : u1.heap[b]? = some (.cells #[.int .i64 c.kind, .string z.path, .string z.dest, .int .i64 z.place, .string z.data] 31) := by rw [← e1, heap_set h]; rfl
  obtain ⟨u2, e2⟩ : ∃ u, u1.setCell ⟨b, 1, none⟩ (.string c.path) = u := ⟨_, rfl⟩
  have h2 : u2.heap[b]? = some (.cells #[.int .i64 c.kind, .string c.path, .string z.dest, .int .i64 z.place, .string z.data] 31) := by rw [← e2, heap_set h1]; rfl
  obtain ⟨u3, e3⟩ : ∃ u, u2.setCell ⟨b, 2, none⟩ (.string c.dest) = u := ⟨_, rfl⟩
  have h3 : u3.heap[b]? = some (.cells #[.int .i64 c.kind, .string c.path, .string c.dest, .int .i64 z.place, .string z.data] 31) := by rw [← e3, heap_set h2]; rfl
  obtain ⟨u4, e4⟩ : ∃ u, u3.setCell ⟨b, 3, none⟩ (.int .i64 c.place) = u := ⟨_, rfl⟩
  have h4 : u4.heap[b]? = some (.cells #[.int .i64 c.kind, .string c.path, .string c.dest, .int .i64 c.place, .string z.data] 31) := by rw [← e4, heap_set h3]; rfl
  obtain ⟨u5, e5⟩ : ∃ u, u4.setCell ⟨b, 4, none⟩ (.string c.data) = u := ⟨_, rfl⟩
  have h5 : u5.heap[b]? = some (CmdObj c) := by rw [← e5, heap_set h4]; rfl
  refine ⟨u1, u2, u3, u4, u5, ⟨e1, e2, e3, e4, e5⟩, ⟨?_, ?_, ?_, ?_, ?_⟩, ⟨?_, ?_, ?_, ?_, ?_⟩, ⟨h5⟩, ?_⟩
  · simp [World.cell?, h]
  · simp [World.cell?, h1]
  · simp [World.cell?, h2]
  · simp [World.cell?, h3]
  · simp [World.cell?, h4]
  · simp [World.frozen?, h]
  · simp [World.frozen?, h1]
  · simp [World.frozen?, h2]
  · simp [World.frozen?, h3]
  · simp [World.frozen?, h4]
  · rw [← e5, ← e4, ← e3, ← e2, ← e1]
    exact (((((Stir.refl (fun i => i = b) w).set (.inl rfl) _).set (.inl rfl) _).set (.inl rfl) _).set (.inl rfl) _).set (.inl rfl) _
def zeroC : Cmd := ⟨0, ⟨#[]⟩, ⟨#[]⟩, 0, ⟨#[]⟩⟩
theorem CmdAt.stir {c : Cmd} {a b : Nat} {w w' : World} (h : CmdAt c a w) (s : Stir (fun i => i = b) w w') (hn : a ≠ b) : CmdAt c a w' := ⟨s.keep h.obj hn⟩
/-- what read answers -/
def ReadE (k : Nat) (ws : List ByteArray) (e : Ending) : Prop :=
  (∃ d, ReadsF (fldK k) ws (cmd0 k) d ∧ e = .returned (.tuple #[cmdV d, .int .i64 0])) ∨ ((∀ d, ¬ ReadsF (fldK k) ws (cmd0 k) d) ∧ e = .returned (.tuple #[cmdV zeroC, .int .i64 130]))
theorem drop_step {fs : List Fld} {ws : List ByteArray} {j : Nat} (h1 : j < fs.length) (h2 : j < ws.length) {c d e : Cmd} (h : FldRd ws[j] c fs[j] e) : ReadsF (fs.drop j) (ws.drop j) c d ↔ ReadsF (fs.drop (j + 1)) (ws.drop (j + 1)) e d := by
  rw [List.drop_eq_getElem_cons h1, List.drop_eq_getElem_cons h2]
  exact ReadsF.step h
theorem drop_stop {fs : List Fld} {ws : List ByteArray} {j : Nat} (h1 : j < fs.length) (h2 : j < ws.length) {c d : Cmd} (h : ∀ e, ¬ FldRd ws[j] c fs[j] e) : ¬ ReadsF (fs.drop j) (ws.drop j) c d := by
  rw [List.drop_eq_getElem_cons h1, List.drop_eq_getElem_cons h2]
  exact ReadsF.stop h
set_option maxRecDepth 100000 in
set_option maxHeartbeats 4000000 in
theorem read_any (k : Nat) (hk : k < 9) (ws : List ByteArray) (hl : ws.length = (fldK k).length) (hsz : ∀ s ∈ ws, s.size ≤ 281474976710656) (g bw off cw : Nat) (w : World) (hfa : w.heap[g]? = some (fieldsObj ((fldK k).map fldN))) (hbw : bw < w.heap.size)
    (hcw : ∀ j (h : j < ws.length), w.cell? ⟨bw, off + j, none⟩ = some (.string ws[j])) (hg : GE w) :
    Calls Tryz.prog 85 #[.int .i64 k, .slice (some ⟨g, 0, none⟩) (fldK k).length (fldK k).length, .slice (some ⟨bw, off, none⟩) (fldK k).length cw] w fun e w' => ReadE k ws e ∧ Below w.heap.size w w' := by
  obtain ⟨m, hm⟩ : ∃ m, (fldK k).length = m := ⟨_, rfl⟩
  have hm3 : m ≤ 3 := by rw [← hm]; exact (fldK_len hk).2
  obtain ⟨w1, hw1⟩ : ∃ w1, w.alloc (CmdObj zeroC) = w1 := ⟨_, rfl⟩
  have hB1 : Below w.heap.size w w1 := by rw [← hw1]; exact (Below.refl _ w).alloc (Nat.le_refl _) _
  have ha1 : CmdAt zeroC w.heap.size w1 := by rw [← hw1]; exact .new _ _
  obtain ⟨w2, hw2⟩ : ∃ w2, w1.alloc (CmdObj zeroC) = w2 := ⟨_, rfl⟩
  have hB2 : Below w1.heap.size w1 w2 := by rw [← hw2]; exact (Below.refl _ w1).alloc (Nat.le_refl _) _
  have ha2 : CmdAt zeroC w1.heap.size w2 := by rw [← hw2]; exact .new _ _
  obtain ⟨u1, u2, u3, u4, u5, ⟨e1, e2, e3, e4, e5⟩, ⟨c1, c2, c3, c4, c5⟩, ⟨f1, f2, f3, f4, f5⟩, ha5, hs5⟩ := cmd_store (cmd0 k) ha2
  have hlt1 : w.heap.size < w1.heap.size := lt_of_heap ha1.obj
  have HA := Lib.hid ha5
  have HZ := Lib.hid ((ha1.later hB2).stir hs5 (by omega))
  have HB := Lib.hid (show Below w.heap.size w u5 from (hB1.trans (hB2.mono hB1.size)).trans (hs5.below (fun i hi => by subst hi; exact hB1.size) (Nat.le_trans hB1.size hB2.size)))
  have HFA := Lib.hid (show ∀ W, Below w.heap.size w W → ∀ i (h : i < (fldK k).length), W.cell? ⟨g, i, none⟩ = some (.int .i64 (fldN (fldK k)[i])) from fun W h i hi => fields_cell (keeps_of h hfa) hi)
  have HCW := Lib.hid (show ∀ W, Below w.heap.size w W → ∀ j (h : j < ws.length), W.cell? ⟨bw, off + j, none⟩ = some (.string ws[j]) from fun W h j hj => (h.cell (p := ⟨bw, off + j, none⟩) hbw).trans (hcw j hj))
  have HM := Lib.hid hm
  have HL := Lib.hid hl
  have HG := Lib.hid hg
  have HSZ := Lib.hid hsz
  have hk9 : (k : Int) < 9 := by omega
  unfold zeroC at c1 c2 c3 c4 c5
  unfold cmd0 at e1 e2 e3 e4 e5
  simp only at c1 c2 c3 c4 c5 e1 e2 e3 e4 e5
  unfold CmdObj zeroC at hw1 hw2
  simp only at hw1 hw2
  rw [hm]
  clear hB1 hB2 ha1 ha2 ha5 hs5 hfa hcw hg hm hl hsz
  go_enter Tryz.func85, Tryz.ntmps85
  go_wp2
  clear c1 c2 c3 c4 c5 f1 f2 f3 f4 f5
  go_loopw [15] (fun i wr => ∃ (j : Nat) (c : Cmd), j ≤ m ∧ i = .int .i64 j ∧ Hid (CmdAt c w1.heap.size wr) ∧ Hid (CmdAt zeroC w.heap.size wr) ∧ Hid (Below w.heap.size w wr) ∧ Hid (∀ d, ReadsF (fldK k) ws (cmd0 k) d ↔ ReadsF ((fldK k).drop j) (ws.drop j) c d)) (fun i _ => m - (intOf i).toNat)
  case atStart => exact ⟨0, cmd0 k, Nat.zero_le _, rfl, HA, HZ, HB, Lib.hid (fun d => Iff.rfl)⟩
  case round =>
    clear hw1 hw2 e1 e2 e3 e4 e5
    obtain ⟨j, c, hj, rfl, HAr, HZr, HBr, HR⟩ := hrel
    by_cases hlt : j < m
    · have hji : (j : Int) < (m : Int) := by omega
      have hjf : j < (fldK k).length := by rw [HM.out]; exact hlt
      have hjw : j < ws.length := by rw [HL.out]; exact hjf
      have hcf := HFA.out wr HBr.out j hjf
      have hcw := HCW.out wr HBr.out j hjw
      have hsw := HSZ.out ws[j] (List.getElem_mem hjw)
      have HY := Lib.hid (fun e h => fun d => (HR.out d).trans (drop_step (d := d) hjf hjw (c := c) (e := e) h))
      have HNo := Lib.hid (fun h => fun d hh => drop_stop (d := d) hjf hjw (c := c) h ((HR.out d).1 hh))
      have CL := fun W => clone_any ws[j] hsw W
      have CR := fun W (h : CmdAt c w1.heap.size W) (hg : GE W) => fldRead_any (fldK k)[j] c w1.heap.size ws[j] hsw W h hg
      unfold FldE at CR
      generalize ws[j] = X at *
      generalize (fldK k)[j] = f at *
      obtain ⟨F, hF⟩ : ∃ F, fldN f = F := ⟨_, rfl⟩
      rw [hF] at hcf CR
      clear hjf hjw hF
      go_wp2_with fail
      refine (CL _).mono ?_
      rintro e w4 ⟨rfl, hB4⟩
      have HB4 := Lib.hid (HBr.out.trans (hB4.mono HBr.out.size))
      have HA4 := Lib.hid (HAr.out.later hB4)
      have HZ4 := Lib.hid (HZr.out.later hB4)
      have CR4 := CR w4 HA4.out (HG.out.below HB4.out)
      clear hB4 CL CR hcf hcw hsw
      go_wp2_with fail
      refine CR4.mono ?_
      rintro e w5 ⟨hfe, hs5⟩
      have HB5 := Lib.hid (HB4.out.trans (hs5.below (B := w.heap.size) (fun i hi => by subst hi; omega) HB4.out.size))
      have HZ5 := Lib.hid (HZ4.out.stir hs5 (by omega))
      clear hs5 CR4
      rcases hfe with ⟨d, hd, rfl, had⟩ | ⟨hno, rfl, d, had⟩
      · have HR5 := Lib.hid (HY.out d hd)
        have HA5 := Lib.hid had
        clear hd had
        go_wp2
        go_roundw
        case rel => exact ⟨j + 1, d, hlt, by go_num, HA5, HZ5, HB5, HR5⟩
        case measure => simp [intOf]; omega
      · have HE := Lib.hid (HNo.out hno)
        obtain ⟨u1, u2, u3, u4, u5, ⟨e1, e2, e3, e4, e5⟩, ⟨c1, c2, c3, c4, c5⟩, ⟨f1, f2, f3, f4, f5⟩, ha6, hs6⟩ := cmd_store zeroC HZ5.out
        have HB6 := Lib.hid (HB5.out.trans (hs6.below (B := w.heap.size) (fun i hi => by subst hi; exact Nat.le_refl _) HB5.out.size))
        obtain ⟨q1, q2, q3, q4, q5⟩ := ha6.cells
        unfold zeroC at c1 c2 c3 c4 c5 e1 e2 e3 e4 e5 q1 q2 q3 q4 q5
        simp only at c1 c2 c3 c4 c5 e1 e2 e3 e4 e5 q1 q2 q3 q4 q5
        clear ha6 hs6 hno had
        go_wp2
        refine bodyPost_ret ?_ rfl ⟨.inr ⟨HE.out, rfl⟩, HB6.out⟩
        rw [results_cell_tmp rfl]
        go_simp
        try rfl
    · obtain rfl : j = m := by omega
      have HE := Lib.hid (show ReadsF (fldK k) ws (cmd0 k) c from (HR.out c).2 (by
        rw [List.drop_of_length_le (by rw [HM.out]; exact Nat.le_refl _), List.drop_of_length_le (by rw [HL.out, HM.out]; exact Nat.le_refl _)]
        rfl))
      obtain ⟨g1, g2, g3, g4, g5⟩ := HAr.out.cells
      obtain ⟨u1, u2, u3, u4, u5, ⟨e1, e2, e3, e4, e5⟩, ⟨c1, c2, c3, c4, c5⟩, ⟨f1, f2, f3, f4, f5⟩, ha6, hs6⟩ := cmd_store c HZr.out
      have HB6 := Lib.hid (HBr.out.trans (hs6.below (B := w.heap.size) (fun i hi => by subst hi; exact Nat.le_refl _) HBr.out.size))
      obtain ⟨q1, q2, q3, q4, q5⟩ := ha6.cells
      unfold zeroC at c1 c2 c3 c4 c5
      simp only at c1 c2 c3 c4 c5
      clear ha6 hs6
      go_wp2
      refine bodyPost_ret ?_ rfl ⟨.inl ⟨c, HE.out, rfl⟩, HB6.out⟩
      rw [results_cell_tmp rfl]
      go_simp
      try rfl
end Go.Proofs.YtfokdmijkniomaaGreatDoor

namespace Go.Proofs.YtfokdmijkniomaaGreatDoor
open Go.RowKit Go

theorem index_lit18 (W : World) (a0 a1 b0 b1 c0 c1 d0 d1 e0 e1 f0 f1 g0 g1 h0 h1 i0 i1 : Value) :
    (Instr.index 96 (.agg #[a0, a1, b0, b1, c0, c1, d0, d1, e0, e1, f0, f1, g0, g1, h0, h1, i0, i1]) (.int .i64 0)).run Tryz.prog W = .ok (.agg #[a0, a1]) W ∧
    (Instr.index 96 (.agg #[a0, a1, b0, b1, c0, c1, d0, d1, e0, e1, f0, f1, g0, g1, h0, h1, i0, i1]) (.int .i64 1)).run Tryz.prog W = .ok (.agg #[b0, b1]) W ∧
    (Instr.index 96 (.agg #[a0, a1, b0, b1, c0, c1, d0, d1, e0, e1, f0, f1, g0, g1, h0, h1, i0, i1]) (.int .i64 2)).run Tryz.prog W = .ok (.agg #[c0, c1]) W ∧
    (Instr.index 96 (.agg #[a0, a1, b0, b1, c0, c1, d0, d1, e0, e1, f0, f1, g0, g1, h0, h1, i0, i1]) (.int .i64 3)).run Tryz.prog W = .ok (.agg #[d0, d1]) W ∧
    (Instr.index 96 (.agg #[a0, a1, b0, b1, c0, c1, d0, d1, e0, e1, f0, f1, g0, g1, h0, h1, i0, i1]) (.int .i64 4)).run Tryz.prog W = .ok (.agg #[e0, e1]) W ∧
    (Instr.index 96 (.agg #[a0, a1, b0, b1, c0, c1, d0, d1, e0, e1, f0, f1, g0, g1, h0, h1, i0, i1]) (.int .i64 5)).run Tryz.prog W = .ok (.agg #[f0, f1]) W ∧
    (Instr.index 96 (.agg #[a0, a1, b0, b1, c0, c1, d0, d1, e0, e1, f0, f1, g0, g1, h0, h1, i0, i1]) (.int .i64 6)).run Tryz.prog W = .ok (.agg #[g0, g1]) W ∧
    (Instr.index 96 (.agg #[a0, a1, b0, b1, c0, c1, d0, d1, e0, e1, f0, f1, g0, g1, h0, h1, i0, i1]) (.int .i64 7)).run Tryz.prog W = .ok (.agg #[h0, h1]) W ∧
    (Instr.index 96 (.agg #[a0, a1, b0, b1, c0, c1, d0, d1, e0, e1, f0, f1, g0, g1, h0, h1, i0, i1]) (.int .i64 8)).run Tryz.prog W = .ok (.agg #[i0, i1]) W :=
  ⟨by kernel_rfl, by kernel_rfl, by kernel_rfl, by kernel_rfl, by kernel_rfl, by kernel_rfl, by kernel_rfl, by kernel_rfl, by kernel_rfl⟩
theorem index_forms (g : Nat → Nat) {k : Nat} (hk : k < 9) (W : World) :
    (Instr.index 96 (formsV g) (.int .i64 k)).run Tryz.prog W = .ok (.agg #[.string (wordK k), .slice (some ⟨g k, 0, none⟩) (fldK k).length (fldK k).length]) W := by
  obtain ⟨h0, h1, h2, h3, h4, h5, h6, h7, h8⟩ := index_lit18 W (.string (wordK 0)) (.slice (some ⟨g 0, 0, none⟩) 1 1) (.string (wordK 1)) (.slice (some ⟨g 1, 0, none⟩) 1 1) (.string (wordK 2)) (.slice (some ⟨g 2, 0, none⟩) 3 3) (.string (wordK 3)) (.slice (some ⟨g 3, 0, none⟩) 2 2)
    (.string (wordK 4)) (.slice (some ⟨g 4, 0, none⟩) 2 2) (.string (wordK 5)) (.slice (some ⟨g 5, 0, none⟩) 2 2) (.string (wordK 6)) (.slice (some ⟨g 6, 0, none⟩) 1 1) (.string (wordK 7)) (.slice (some ⟨g 7, 0, none⟩) 1 1) (.string (wordK 8)) (.slice (some ⟨g 8, 0, none⟩) 1 1)
  rcases below9 hk with rfl | rfl | rfl | rfl | rfl | rfl | rfl | rfl | rfl
  · exact h0
  · exact h1
  · exact h2
  · exact h3
  · exact h4
  · exact h5
  · exact h6
  · exact h7
  · exact h8
/-- a form is stored in a new box -/
theorem form_store (w : World) (s : ByteArray) (g m : Nat) : ∃ v1 s1 s2, (w.alloc (.cells #[.string ⟨#[]⟩, .slice none 0 0] 95) = v1 ∧ v1.setCell ⟨w.heap.size, 0, none⟩ (.string s) = s1 ∧ s1.setCell ⟨w.heap.size, 1, none⟩ (.slice (some ⟨g, 0, none⟩) m m) = s2) ∧
    (v1.cell? ⟨w.heap.size, 0, none⟩ = some (.string ⟨#[]⟩) ∧ s1.cell? ⟨w.heap.size, 1, none⟩ = some (.slice none 0 0)) ∧ (v1.frozen? ⟨w.heap.size, 0, none⟩ = false ∧ s1.frozen? ⟨w.heap.size, 1, none⟩ = false) ∧
    (s2.cell? ⟨w.heap.size, 0, none⟩ = some (.string s) ∧ s2.cell? ⟨w.heap.size, 1, none⟩ = some (.slice (some ⟨g, 0, none⟩) m m)) ∧ Below w.heap.size w s2 ∧ w.heap.size < s2.heap.size := by
  obtain ⟨v1, e1⟩ : ∃ v1, w.alloc (.cells #[.string ⟨#[]⟩, .slice none 0 0] 95) = v1 := ⟨_, rfl⟩
  have h1 : v1.heap[w.heap.size]? = some (.cells #[.string ⟨#[]⟩, .slice none 0 0] 95 (0, 0)) := by rw [← e1]; exact heap_alloc_new _ _
  obtain ⟨s1, e2⟩ : ∃ u, v1.setCell ⟨w.heap.size, 0, none⟩ (.string s) = u := ⟨_, rfl⟩
  have h2 : s1.heap[w.heap.size]? = some (.cells #[.string s, .slice none 0 0] 95 (0, 0)) := by rw [← e2, heap_set h1]; rfl
  obtain ⟨s2, e3⟩ : ∃ u, s1.setCell ⟨w.heap.size, 1, none⟩ (.slice (some ⟨g, 0, none⟩) m m) = u := ⟨_, rfl⟩
  have h3 : s2.heap[w.heap.size]? = some (.cells #[.string s, .slice (some ⟨g, 0, none⟩) m m] 95 (0, 0)) := by rw [← e3, heap_set h2]; rfl
  refine ⟨v1, s1, s2, ⟨e1, e2, e3⟩, ⟨?_, ?_⟩, ⟨?_, ?_⟩, ⟨?_, ?_⟩, ?_, lt_of_heap h3⟩
  · simp [World.cell?, h1]
  · simp [World.cell?, h2]
  · simp [World.frozen?, h1]
  · simp [World.frozen?, h2]
  · simp [World.cell?, h3]
  · simp [World.cell?, h3]
  · rw [← e3, ← e2, ← e1]
    exact (((Below.refl _ w).alloc (Nat.le_refl _) _).setCell (Nat.le_refl _) _).setCell (Nat.le_refl _) _
/-- what Parse answers -/
def ParseE (s : ByteArray) (e : Ending) : Prop :=
  (∃ d, IsLine d s ∧ e = .returned (.tuple #[cmdV d, .int .i64 0])) ∨ ((∀ d, ¬ IsLine d s) ∧ e = .returned (.tuple #[cmdV zeroC, .int .i64 130]))
theorem parse_of_read {s : ByteArray} {k : Nat} (hk : k < 9) {ws : List ByteArray} (hc : CutN 32 5 s (wordK k :: ws)) {e : Ending} (h : ReadE k ws e) : ParseE s e := by
  rcases h with ⟨d, hd, he⟩ | ⟨hn, he⟩
  · exact .inl ⟨d, yes_line hk hc hd, he⟩
  · exact .inr ⟨no_read hk hc hn, he⟩
theorem read_tuple {s : ByteArray} {e : Ending} (h : ParseE s e) : ∃ (d : Cmd) (n : Int), e = .returned (.tuple #[.agg #[.int .i64 d.kind, .string d.path, .string d.dest, .int .i64 d.place, .string d.data], .int .i64 n]) ∧ ParseE s (.returned (.tuple #[cmdV d, .int .i64 n])) := by
  have k := h
  rcases h with ⟨d, _, rfl⟩ | ⟨_, rfl⟩
  · exact ⟨d, 0, rfl, k⟩
  · exact ⟨zeroC, 130, rfl, k⟩
/-- no form's so far -/
def NoForm (ps : List ByteArray) (k : Nat) : Prop := ∀ j, j < k → ¬ (ps[0]? = some (wordK j) ∧ ps.length = (fldK j).length + 1)
theorem NoForm.line {s : ByteArray} {ps : List ByteArray} (h : NoForm ps 9) (hc : CutN 32 5 s ps) (d : Cmd) : ¬ IsLine d s :=
  no_line hc (fun k hk d ws e hr => h k hk ⟨by rw [e]; rfl, by rw [e, List.length_cons, reads_len hr]⟩) d
theorem NoForm.next {ps : List ByteArray} {k : Nat} (h : NoForm ps k) (hn : ¬ (ps[0]? = some (wordK k) ∧ ps.length = (fldK k).length + 1)) : NoForm ps (k + 1) := fun j hj => by
  rcases Nat.lt_or_ge j k with h1 | h1
  · exact h j h1
  · obtain rfl : j = k := by omega
    exact hn
set_option maxRecDepth 100000 in
set_option maxHeartbeats 8000000 in
theorem parse_any (s : ByteArray) (hs : s.size ≤ 281474976710656) (w : World) (hg : GE w) :
    Calls Tryz.prog 52 #[.string s] w fun e w' => ParseE s e ∧ Below w.heap.size w w' := by
  obtain ⟨w1, hw1⟩ : ∃ w1, w.alloc (CmdObj zeroC) = w1 := ⟨_, rfl⟩
  have hB1 : Below w.heap.size w w1 := by rw [← hw1]; exact (Below.refl _ w).alloc (Nat.le_refl _) _
  have ha1 : CmdAt zeroC w.heap.size w1 := by rw [← hw1]; exact .new _ _
  have HG := Lib.hid hg
  have HB1 := Lib.hid hB1
  have HA1 := Lib.hid ha1
  have CS := splitN_any s 32 5 (by omega) (by omega) hs w1
  unfold CmdObj zeroC at hw1
  simp only at hw1
  clear hB1 ha1 hg
  go_enter Tryz.func52, Tryz.ntmps52
  go_wp2_with fail
  refine CS.mono ?_
  rintro e w2 ⟨ps, hc, N, hpN, hNn, rfl, hw2⟩
  have hpl : ps.length ≤ 5 := hc.2.1
  have hp1 : 1 ≤ ps.length := by cases ps with | nil => exact absurd rfl hc.1 | cons _ _ => simp
  have HC := Lib.hid hc
  have hB2 : Below w1.heap.size w1 w2 := by rw [hw2]; exact (Below.refl _ w1).alloc (Nat.le_refl _) _
  have hrow2 : w2.heap[w1.heap.size]? = some (.cells (Lib.cellsOf ps N) 9 (0, 0)) := by rw [hw2]; exact heap_alloc_new _ _
  have HB2 := Lib.hid (HB1.out.trans (hB2.mono HB1.out.size))
  have HA2 := Lib.hid (HA1.out.later hB2)
  have CF := forms_any w2
  clear hc hw2 hB2 CS hw1
  go_wp2_with fail
  refine CF.mono ?_
  rintro e w3 ⟨g, rfl, hfa, hB3⟩
  have HFA := Lib.hid hfa
  have HB3 := Lib.hid (HB2.out.trans (hB3.mono HB2.out.size))
  have HA3 := Lib.hid (HA2.out.later hB3)
  have HRow := Lib.hid (show ∀ W, Below w3.heap.size w3 W → ∀ j (h : j < ps.length), W.cell? ⟨w1.heap.size, 0 + j, none⟩ = some (.string ps[j]) from fun W hW j hj => by
    have h3 := keeps_of hW (keeps_of hB3 hrow2)
    have hx := cellsOf_at (N := N) hj
    rw [Nat.zero_add]
    simp [World.cell?, h3, hx])
  have hr13 : w1.heap.size < w3.heap.size := Nat.lt_of_lt_of_le (lt_of_heap hrow2) hB3.size
  have X := fun (k : Nat) (hk : k < 9) W => index_forms g hk W
  generalize formsV g = V at *
  have HX := Lib.hid X
  obtain ⟨L, hL⟩ : ∃ L, ps.length = L := ⟨_, rfl⟩
  have HLen := Lib.hid hL
  rw [hL] at hpN hpl hp1 ⊢
  clear hfa hB3 hrow2 CF X hL
  go_wp2
  go_loopw [10] (fun i wr => ∃ k : Nat, k ≤ 9 ∧ i = .int .i64 k ∧ Hid (NoForm ps k) ∧ Hid (Below w3.heap.size w3 wr)) (fun i _ => 9 - (intOf i).toNat)
  case atStart => exact ⟨0, Nat.zero_le _, rfl, Lib.hid (fun _ h => absurd h (by omega)), Lib.hid (Below.refl _ _)⟩
  case round =>
    obtain ⟨k, hk, rfl, HN, HB⟩ := hrel
    have hszr := HB.out.size
    by_cases hlt : k < 9
    · have hki : (k : Int) < 9 := by omega
      have X := HX.out k hlt
      obtain ⟨m, hm⟩ : ∃ m, (fldK k).length = m := ⟨_, rfl⟩
      obtain ⟨Wk, hWk⟩ : ∃ Wk, wordK k = Wk := ⟨_, rfl⟩
      obtain ⟨p0, hp0⟩ : ∃ p0, ps[0]'(by rw [HLen.out]; omega) = p0 := ⟨_, rfl⟩
      have hcell0 := HRow.out wr HB.out 0 (by rw [HLen.out]; omega)
      rw [hm, hWk] at X
      rw [hp0, Nat.zero_add] at hcell0
      obtain ⟨v1, s1, s2, ⟨e1, e2, e3⟩, ⟨y1, y2⟩, ⟨z1, z2⟩, ⟨q0, q1⟩, hBs, hls⟩ := form_store wr Wk (g k) m
      have r0 : s2.cell? ⟨w1.heap.size, 0, none⟩ = some (.string p0) := (hBs.cell (p := ⟨w1.heap.size, 0, none⟩) (by show w1.heap.size < _; omega)).trans hcell0
      have HBs := Lib.hid (HB.out.trans (hBs.mono HB.out.size))
      have HM := Lib.hid hm
      have HWk := Lib.hid hWk
      have HP0 := Lib.hid (show ps[0]? = some p0 by rw [List.getElem?_eq_getElem (by rw [HLen.out]; omega), hp0])
      have t0 : s2.drew.cell? ⟨wr.heap.size, 0, none⟩ = some (.string Wk) := q0
      have t1 : s2.drew.cell? ⟨wr.heap.size, 1, none⟩ = some (.slice (some ⟨g k, 0, none⟩) m m) := q1
      have t2 : s2.drew.cell? ⟨w1.heap.size, 0, none⟩ = some (.string p0) := r0
      have hone : (1 : Int) ≤ (L : Int) := by omega
      have hpos : (0 : Int) < (L : Int) := by omega
      have hL0 : ¬ (L = 0) := by omega
      have hNi : (L : Int) ≤ (N : Int) := by omega
      have hm1 : 1 ≤ m := by rw [← hm]; exact (fldK_len hlt).1
      clear hBs hm hWk hcell0 hp0
      go_upto_region 5 with fail
      by_cases hw : Wk.toList = p0.toList
      · have b1 : (Wk.toList == p0.toList) = true := beq_iff_eq.2 hw
        have HW := Lib.hid (show ps[0]? = some (wordK k) by rw [HP0.out, HWk.out]; congr 1; exact ba_ext (by rw [← toList_eq, ← toList_eq, hw]))
        clear hw
        by_cases hl : m + 1 = L
        · obtain ⟨M, hM⟩ : ∃ M, N = M + 1 := ⟨N - 1, by omega⟩
          subst hl hM
          have hM1 : ¬ (M = 0) := by omega
          have h1m : ¬ ((m : Int) + 1 < 1) := by omega
          obtain ⟨ws, hps⟩ : ∃ ws, ps = wordK k :: ws := by
            have h := HW.out
            cases ps with
            | nil => simp at h
            | cons p ws => exact ⟨ws, by simp at h; rw [h]⟩
          have hwl : ws.length = (fldK k).length := by
            have h := HLen.out
            rw [hps, List.length_cons] at h
            rw [HM.out]; omega
          have CR := fun W (hW : Below w3.heap.size w3 W) => read_any k hlt ws hwl (fun x hx => Nat.le_trans (HC.out.part (by rw [hps]; exact List.mem_cons_of_mem _ hx)) hs) (g k) w1.heap.size 1 M W (keeps_of hW (HFA.out k hlt)) (Nat.lt_of_lt_of_le hr13 hW.size) (fun j h => by
            have hj : j + 1 < ps.length := by rw [hps]; simpa using h
            have h2 := HRow.out W hW (j + 1) hj
            rw [show 0 + (j + 1) = 1 + j by omega] at h2
            rw [h2]
            congr 2
            simp [hps]) (HG.out.below (HB3.out.trans (hW.mono HB3.out.size)))
          rw [HM.out] at CR
          have HPE := Lib.hid (fun e (h : ReadE k ws e) => read_tuple (parse_of_read (s := s) hlt (by rw [← hps]; exact HC.out) h))
          have HCR := Lib.hid CR
          clear CR hwl hps
          refine wp_region_held_drew (S := fun w' => w'.cell? ⟨wr.heap.size, 0, none⟩ = some (.string Wk) ∧ w'.cell? ⟨wr.heap.size, 1, none⟩ = some (.slice (some ⟨g k, 0, none⟩) m m) ∧ w'.cell? ⟨w1.heap.size, 0, none⟩ = some (.string p0)) (by kernel_rfl) ⟨t0, t1, t2⟩ (fun hHeld => ?_)
          refine tkH 14 (i := 0) (v := .pointer (some ⟨wr.heap.size, 0, none⟩)) (h := ?_)
          simp only [Act.put, stA, st0, st1]
          refine tkH 15 (i := 1) (v := .string Wk) (h := ?_)
          simp only [Act.put, stA, st0, st1]
          refine tkH 16 (i := 2) (v := .slice (some ⟨w1.heap.size, 0, none⟩) (m + 1) (M + 1)) (h := ?_)
          simp only [Act.put, stA, st0, st1]
          refine tkH 17 (i := 3) (v := .pointer (some ⟨w1.heap.size, 0, none⟩)) (h := ?_)
          simp only [Act.put, stA, st0, st1]
          refine tkH 18 (i := 4) (v := .string p0) (h := ?_)
          simp only [Act.put, stA, st0, st1]
          refine tkH 19 (i := 5) (v := .bool true) (h := ?_)
          simp only [Act.put, stA, st0, st1]
          refine tkH 20 (i := 6) (v := .bool true) (h := ?_)
          simp only [Act.put, stA, st0, st1]
          refine tkH 21 (i := 7) (v := .pointer (some ⟨wr.heap.size, 1, none⟩)) (h := ?_)
          simp only [Act.put, stA, st0, st1]
          refine tkH 22 (i := 8) (v := .slice (some ⟨g k, 0, none⟩) m m) (h := ?_)
          simp only [Act.put, stA, st0, st1]
          refine tkH 23 (i := 9) (v := .int .i64 m) (h := ?_)
          simp only [Act.put, stA, st0, st1]
          refine tkH 24 (i := 10) (v := .slice (some ⟨w1.heap.size, 0, none⟩) (m + 1) (M + 1)) (h := ?_)
          simp only [Act.put, stA, st0, st1]
          refine tkH 25 (i := 11) (v := .slice (some ⟨w1.heap.size, 1, none⟩) m M) (h := ?_)
          simp only [Act.put, stA, st0, st1]
          refine tkH 26 (i := 12) (v := .int .i64 (m : Int)) (h := ?_)
          simp only [Act.put, stA, st0, st1]
          refine tkH 27 (i := 13) (v := .bool true) (h := ?_)
          simp only [Act.put, stA, st0, st1]
          refine tkH 28 (i := 14) (v := .bool true) (h := ?_)
          simp only [Act.put, stA, st0, st1]
          refine wpAnyH_done (by kernel_rfl) ?_ _
          clear hHeld
          go_upto_region 6 with fail
          refine wp_region_held_drew (S := fun w' => w'.cell? ⟨wr.heap.size, 1, none⟩ = some (.slice (some ⟨g k, 0, none⟩) m m)) (by kernel_rfl) t1 (fun hHeld => ?_)
          refine tkH 29 (i := 0) (v := .int .i64 k) (h := ?_)
          simp only [Act.put, stA, st0, st1]
          refine tkH 30 (i := 1) (v := .pointer (some ⟨wr.heap.size, 1, none⟩)) (h := ?_)
          simp only [Act.put, stA, st0, st1]
          refine tkH 31 (i := 2) (v := .slice (some ⟨g k, 0, none⟩) m m) (h := ?_)
          simp only [Act.put, stA, st0, st1]
          refine tkH 32 (i := 3) (v := .slice (some ⟨w1.heap.size, 0, none⟩) (m + 1) (M + 1)) (h := ?_)
          simp only [Act.put, stA, st0, st1]
          refine tkH 33 (i := 4) (v := .slice (some ⟨w1.heap.size, 1, none⟩) m M) (h := ?_)
          simp only [Act.put, stA, st0, st1]
          refine wpAnyH_ready (rs := [5]) (by kernel_rfl) (by simp) ?_
          refine AllReadyH.cons rfl (fun K hK => ?_) (AllReadyH.nil)
          go_simp
          go_at_call 85
          refine (HCR.out _ (by first | exact HBs.out | exact HBs.out.drew | exact HBs.out.drew.drew)).mono ?_
          rintro e w5 ⟨hre, hB5⟩
          obtain ⟨dd, nn, rfl, hpe⟩ := HPE.out _ hre
          have HPe := Lib.hid hpe
          have HB5 := Lib.hid (show Below w3.heap.size w3 w5 from HBs.out.drew.drew.trans (hB5.mono HBs.out.size))
          have t5 : w5.cell? ⟨wr.heap.size, 1, none⟩ = some (.slice (some ⟨g k, 0, none⟩) m m) := (hB5.cell (p := ⟨wr.heap.size, 1, none⟩) (by show wr.heap.size < _; exact hls)).trans t1
          obtain ⟨u1, u2, u3, u4, u5, ⟨e1, e2, e3, e4, e5⟩, ⟨c1, c2, c3, c4, c5⟩, ⟨f1, f2, f3, f4, f5⟩, ha6, hs6⟩ := cmd_store dd (HA3.out.later HB5.out)
          unfold zeroC at c1 c2 c3 c4 c5
          simp only at c1 c2 c3 c4 c5
          have hBw := HB3.out.trans (HB5.out.mono HB3.out.size)
          have HB6 := Lib.hid (hBw.trans (hs6.below (B := w.heap.size) (fun i hi => by subst hi; exact Nat.le_refl _) hBw.size))
          have t6 : u5.cell? ⟨wr.heap.size, 1, none⟩ = some (.slice (some ⟨g k, 0, none⟩) m m) := (World.cell?_of_block (w := w5) (hs6.block wr.heap.size (Nat.lt_of_lt_of_le hls hB5.size) (by have := HA3.out.obj; have := lt_of_heap this; omega))).trans t5
          obtain ⟨q1, q2, q3, q4, q5⟩ := ha6.cells
          clear ha6 hs6 hBw hB5 hre hpe
          go_wp2_with fail
          refine hK.out _ _ t5 (fun hHeld => ?_)
          clear hK K
          try simp only [Act.put, stA, st0, st1]
          refine tkH 35 (i := 6) (v := .agg #[.int .i64 dd.kind, .string dd.path, .string dd.dest, .int .i64 dd.place, .string dd.data]) (h := ?_)
          simp only [Act.put, stA, st0, st1]
          refine tkH 36 (i := 7) (v := .int .i64 nn) (h := ?_)
          simp only [Act.put, stA, st0, st1]
          refine wpAnyH_ready (rs := [8]) (by kernel_rfl) (by simp) ?_
          refine AllReadyH.cons rfl (fun K hK => ?_) (AllReadyH.nil)
          go_simp
          refine hK.out _ _ t6 (fun hHeld => ?_)
          clear hK K
          try simp only [Act.put, stA, st0, st1]
          refine tkH 3 (i := 9) (v := .int .i64 nn) (h := ?_)
          simp only [Act.put, stA, st0, st1]
          refine wpAnyH_done (by kernel_rfl) ?_ _
          clear t0 t1 t2 t5 t6 c1 c2 c3 c4 c5 f1 f2 f3 f4 f5 e1 e2 e3 e4 e5
          go_wp2
          refine bodyPost_ret ?_ rfl ⟨HPe.out, HB6.out⟩
          rw [results_cell_tmp rfl]
          go_simp
          try rfl
        · have HE := Lib.hid (HN.out.next (fun h => hl (by have := h.2; rw [HM.out, HLen.out] at this; omega)))
          by_cases hL1 : N = 1
          · subst hL1
            obtain rfl : L = 1 := by omega
            have b2 : ((m : Int) == 0) = false := beq_eq_false_iff_ne.2 (by omega)
            refine wp_region_held_drew (S := fun w' => w'.cell? ⟨wr.heap.size, 0, none⟩ = some (.string Wk) ∧ w'.cell? ⟨wr.heap.size, 1, none⟩ = some (.slice (some ⟨g k, 0, none⟩) m m) ∧ w'.cell? ⟨w1.heap.size, 0, none⟩ = some (.string p0)) (by kernel_rfl) ⟨t0, t1, t2⟩ (fun hHeld => ?_)
            refine tkH 14 (i := 0) (v := .pointer (some ⟨wr.heap.size, 0, none⟩)) (h := ?_)
            simp only [Act.put, stA, st0, st1]
            refine tkH 15 (i := 1) (v := .string Wk) (h := ?_)
            simp only [Act.put, stA, st0, st1]
            refine tkH 16 (i := 2) (v := .slice (some ⟨w1.heap.size, 0, none⟩) 1 1) (h := ?_)
            simp only [Act.put, stA, st0, st1]
            refine tkH 17 (i := 3) (v := .pointer (some ⟨w1.heap.size, 0, none⟩)) (h := ?_)
            simp only [Act.put, stA, st0, st1]
            refine tkH 18 (i := 4) (v := .string p0) (h := ?_)
            simp only [Act.put, stA, st0, st1]
            refine tkH 19 (i := 5) (v := .bool true) (h := ?_)
            simp only [Act.put, stA, st0, st1]
            refine tkH 20 (i := 6) (v := .bool true) (h := ?_)
            simp only [Act.put, stA, st0, st1]
            refine tkH 21 (i := 7) (v := .pointer (some ⟨wr.heap.size, 1, none⟩)) (h := ?_)
            simp only [Act.put, stA, st0, st1]
            refine tkH 22 (i := 8) (v := .slice (some ⟨g k, 0, none⟩) m m) (h := ?_)
            simp only [Act.put, stA, st0, st1]
            refine tkH 23 (i := 9) (v := .int .i64 m) (h := ?_)
            simp only [Act.put, stA, st0, st1]
            refine tkH 24 (i := 10) (v := .slice (some ⟨w1.heap.size, 0, none⟩) 1 1) (h := ?_)
            simp only [Act.put, stA, st0, st1]
            refine tkH 25 (i := 11) (v := .slice (some ⟨w1.heap.size, 0, none⟩) 0 0) (h := ?_)
            simp only [Act.put, stA, st0, st1]
            refine tkH 26 (i := 12) (v := .int .i64 0) (h := ?_)
            simp only [Act.put, stA, st0, st1]
            refine tkH 27 (i := 13) (v := .bool false) (h := ?_)
            simp only [Act.put, stA, st0, st1]
            refine tkH 28 (i := 14) (v := .bool false) (h := ?_)
            simp only [Act.put, stA, st0, st1]
            refine wpAnyH_done (by kernel_rfl) ?_ _
            clear t0 t1 t2 q0 q1 r0 hHeld
            go_wp2
            go_roundw
            case rel => exact ⟨k + 1, hlt, by go_num, HE, by first | exact HBs | exact Lib.hid HBs.out.drew⟩
            case measure => simp [intOf]; omega
          · obtain ⟨M, hM⟩ : ∃ M, N = M + 1 := ⟨N - 1, by omega⟩
            obtain ⟨l, hl1⟩ : ∃ l, L = l + 1 := ⟨L - 1, by omega⟩
            subst hM hl1
            have hM1 : ¬ (M = 0) := by omega
            have h1l : ¬ ((l : Int) + 1 < 1) := by omega
            have b2 : ((m : Int) == (l : Int)) = false := beq_eq_false_iff_ne.2 (by omega)
            refine wp_region_held_drew (S := fun w' => w'.cell? ⟨wr.heap.size, 0, none⟩ = some (.string Wk) ∧ w'.cell? ⟨wr.heap.size, 1, none⟩ = some (.slice (some ⟨g k, 0, none⟩) m m) ∧ w'.cell? ⟨w1.heap.size, 0, none⟩ = some (.string p0)) (by kernel_rfl) ⟨t0, t1, t2⟩ (fun hHeld => ?_)
            refine tkH 14 (i := 0) (v := .pointer (some ⟨wr.heap.size, 0, none⟩)) (h := ?_)
            simp only [Act.put, stA, st0, st1]
            refine tkH 15 (i := 1) (v := .string Wk) (h := ?_)
            simp only [Act.put, stA, st0, st1]
            refine tkH 16 (i := 2) (v := .slice (some ⟨w1.heap.size, 0, none⟩) (l + 1) (M + 1)) (h := ?_)
            simp only [Act.put, stA, st0, st1]
            refine tkH 17 (i := 3) (v := .pointer (some ⟨w1.heap.size, 0, none⟩)) (h := ?_)
            simp only [Act.put, stA, st0, st1]
            refine tkH 18 (i := 4) (v := .string p0) (h := ?_)
            simp only [Act.put, stA, st0, st1]
            refine tkH 19 (i := 5) (v := .bool true) (h := ?_)
            simp only [Act.put, stA, st0, st1]
            refine tkH 20 (i := 6) (v := .bool true) (h := ?_)
            simp only [Act.put, stA, st0, st1]
            refine tkH 21 (i := 7) (v := .pointer (some ⟨wr.heap.size, 1, none⟩)) (h := ?_)
            simp only [Act.put, stA, st0, st1]
            refine tkH 22 (i := 8) (v := .slice (some ⟨g k, 0, none⟩) m m) (h := ?_)
            simp only [Act.put, stA, st0, st1]
            refine tkH 23 (i := 9) (v := .int .i64 m) (h := ?_)
            simp only [Act.put, stA, st0, st1]
            refine tkH 24 (i := 10) (v := .slice (some ⟨w1.heap.size, 0, none⟩) (l + 1) (M + 1)) (h := ?_)
            simp only [Act.put, stA, st0, st1]
            refine tkH 25 (i := 11) (v := .slice (some ⟨w1.heap.size, 1, none⟩) l M) (h := ?_)
            simp only [Act.put, stA, st0, st1]
            refine tkH 26 (i := 12) (v := .int .i64 (l : Int)) (h := ?_)
            simp only [Act.put, stA, st0, st1]
            refine tkH 27 (i := 13) (v := .bool false) (h := ?_)
            simp only [Act.put, stA, st0, st1]
            refine tkH 28 (i := 14) (v := .bool false) (h := ?_)
            simp only [Act.put, stA, st0, st1]
            refine wpAnyH_done (by kernel_rfl) ?_ _
            clear t0 t1 t2 q0 q1 r0 hHeld
            go_wp2
            go_roundw
            case rel => exact ⟨k + 1, hlt, by go_num, HE, by first | exact HBs | exact Lib.hid HBs.out.drew⟩
            case measure => simp [intOf]; omega
      · have b1 : (Wk.toList == p0.toList) = false := beq_eq_false_iff_ne.2 hw
        have HE := Lib.hid (HN.out.next (fun h => hw (by rw [HP0.out] at h; rw [← HWk.out, Option.some.inj h.1])))
        clear hw
        refine wp_region_held_drew (S := fun w' => w'.cell? ⟨wr.heap.size, 0, none⟩ = some (.string Wk) ∧ w'.cell? ⟨wr.heap.size, 1, none⟩ = some (.slice (some ⟨g k, 0, none⟩) m m) ∧ w'.cell? ⟨w1.heap.size, 0, none⟩ = some (.string p0)) (by kernel_rfl) ⟨t0, t1, t2⟩ (fun hHeld => ?_)
        refine tkH 14 (i := 0) (v := .pointer (some ⟨wr.heap.size, 0, none⟩)) (h := ?_)
        simp only [Act.put, stA, st0, st1]
        refine tkH 15 (i := 1) (v := .string Wk) (h := ?_)
        simp only [Act.put, stA, st0, st1]
        refine tkH 16 (i := 2) (v := .slice (some ⟨w1.heap.size, 0, none⟩) L N) (h := ?_)
        simp only [Act.put, stA, st0, st1]
        refine tkH 17 (i := 3) (v := .pointer (some ⟨w1.heap.size, 0, none⟩)) (h := ?_)
        simp only [Act.put, stA, st0, st1]
        refine tkH 18 (i := 4) (v := .string p0) (h := ?_)
        simp only [Act.put, stA, st0, st1]
        refine tkH 19 (i := 5) (v := .bool false) (h := ?_)
        simp only [Act.put, stA, st0, st1]
        refine tkH 20 (i := 6) (v := .bool false) (h := ?_)
        simp only [Act.put, stA, st0, st1]
        refine tkU 21 (i := 7) (v := undef) (h := ?_)
        simp only [Act.put, stA, st0, st1]
        refine tkU 22 (i := 8) (v := undef) (h := ?_)
        simp only [Act.put, stA, st0, st1]
        refine tkU 23 (i := 9) (v := undef) (h := ?_)
        simp only [Act.put, stA, st0, st1]
        refine tkU 24 (i := 10) (v := undef) (h := ?_)
        simp only [Act.put, stA, st0, st1]
        refine tkU 25 (i := 11) (v := undef) (h := ?_)
        simp only [Act.put, stA, st0, st1]
        refine tkU 26 (i := 12) (v := undef) (h := ?_)
        simp only [Act.put, stA, st0, st1]
        refine tkU 27 (i := 13) (v := undef) (h := ?_)
        simp only [Act.put, stA, st0, st1]
        refine tkH 28 (i := 14) (v := .bool false) (h := ?_)
        simp only [Act.put, stA, st0, st1]
        refine wpAnyH_done (by kernel_rfl) ?_ _
        clear t0 t1 t2 q0 q1 r0 hHeld
        go_wp2
        go_roundw
        case rel => exact ⟨k + 1, hlt, by go_num, HE, by first | exact HBs | exact Lib.hid HBs.out.drew⟩
        case measure => simp [intOf]; omega
    · obtain rfl : k = 9 := by omega
      have HE := Lib.hid (fun d => HN.out.line HC.out d)
      have HAr := HA3.out.later HB.out
      obtain ⟨u1, u2, u3, u4, u5, ⟨e1, e2, e3, e4, e5⟩, ⟨c1, c2, c3, c4, c5⟩, ⟨f1, f2, f3, f4, f5⟩, ha6, hs6⟩ := cmd_store zeroC HAr
      have HBw := HB3.out.trans (HB.out.mono HB3.out.size)
      have HB6 := Lib.hid (HBw.trans (hs6.below (B := w.heap.size) (fun i hi => by subst hi; exact Nat.le_refl _) HBw.size))
      obtain ⟨q1, q2, q3, q4, q5⟩ := ha6.cells
      unfold zeroC at c1 c2 c3 c4 c5 e1 e2 e3 e4 e5 q1 q2 q3 q4 q5
      simp only at c1 c2 c3 c4 c5 e1 e2 e3 e4 e5 q1 q2 q3 q4 q5
      clear ha6 hs6 HAr HBw
      go_wp2
      refine bodyPost_ret ?_ rfl ⟨.inr ⟨HE.out, rfl⟩, HB6.out⟩
      rw [results_cell_tmp rfl]
      go_simp
      try rfl
end Go.Proofs.YtfokdmijkniomaaGreatDoor

namespace Go.Proofs.YtfokdmijkniomaaGreatDoor
open Go.RowKit Go

theorem texts_ne2 {a b : ByteArray} (h : a ≠ b) : (a.toList == b.toList) = false ∧ ¬ a.toList = b.toList := by
  have hn : ¬ a.toList = b.toList := fun e => h (ba_ext (by rw [← toList_eq, ← toList_eq, e]))
  exact ⟨beq_eq_false_iff_ne.2 hn, hn⟩
/-- what Print answers -/
def PrintE (c : Cmd) (e : Ending) : Prop :=
  (∃ k : Nat, k < 9 ∧ c.kind = k ∧ MayK c k ∧ e = .returned (.tuple #[.string (bs (lineK k c)), .int .i64 0])) ∨ (¬ MayC c ∧ e = .returned (.tuple #[.string ⟨#[]⟩, .int .i64 130]))
theorem MayK.data {c : Cmd} {k : Nat} (hk : k < 9) (h : MayK c k) : c.data.size ≤ 512 := by
  have e0 : ∀ {x : ByteArray}, x = ⟨#[]⟩ → x.size ≤ 512 := fun h => by subst h; decide
  rcases below9 hk with rfl | rfl | rfl | rfl | rfl | rfl | rfl | rfl | rfl
  · exact e0 h.2.2.2
  · exact e0 h.2.2.2
  · exact h.2.2.2
  · exact e0 h.2.2.2
  · exact e0 h.2.2.2
  · exact e0 h.2.2.2
  · exact e0 h.2.2.2
  · exact e0 h.2.2.2
  · exact e0 h.2.2.2
theorem line_self {c : Cmd} {k : Nat} (hk : k < 9) (hc : c.kind = k) (h : MayK c k) : IsLine c (bs (lineK k c)) := ⟨k, hk, hc, h, by rw [bs_list]⟩
theorem not_may {c d : Cmd} {k : Nat} (hc : c.kind = k) (h : IsLine d (bs (lineK k c))) (hn : d ≠ c) : ¬ MayC c := by
  rintro ⟨j, hj, hcj, hm⟩
  have : (j : Int) = k := by rw [← hcj, hc]
  obtain rfl : j = k := by omega
  exact hn (h.uniq (line_self hj hc hm))
theorem not_may' {c : Cmd} {k : Nat} (hc : c.kind = k) (h : ∀ d, ¬ IsLine d (bs (lineK k c))) : ¬ MayC c := by
  rintro ⟨j, hj, hcj, hm⟩
  have : (j : Int) = k := by rw [← hcj, hc]
  obtain rfl : j = k := by omega
  exact h c (line_self hj hc hm)
theorem is_may {c : Cmd} {k : Nat} (hc : c.kind = k) (h : IsLine c (bs (lineK k c))) : k < 9 ∧ MayK c k := by
  obtain ⟨j, hj, hcj, hm, _⟩ := h
  have : (j : Int) = k := by rw [← hcj, hc]
  obtain rfl : j = k := by omega
  exact ⟨hj, hm⟩
theorem cmd_ne {d c : Cmd} (h : d ≠ c) : (d.kind ≠ c.kind) ∨ (d.kind = c.kind ∧ d.path ≠ c.path) ∨ (d.kind = c.kind ∧ d.path = c.path ∧ d.dest ≠ c.dest) ∨ (d.kind = c.kind ∧ d.path = c.path ∧ d.dest = c.dest ∧ d.place ≠ c.place) ∨ (d.kind = c.kind ∧ d.path = c.path ∧ d.dest = c.dest ∧ d.place = c.place ∧ d.data ≠ c.data) := by
  by_cases h1 : d.kind = c.kind
  · by_cases h2 : d.path = c.path
    · by_cases h3 : d.dest = c.dest
      · by_cases h4 : d.place = c.place
        · by_cases h5 : d.data = c.data
          · exact absurd (cmd_ext h1 h2 h3 h4 h5) h
          · exact .inr (.inr (.inr (.inr ⟨h1, h2, h3, h4, h5⟩)))
        · exact .inr (.inr (.inr (.inl ⟨h1, h2, h3, h4⟩)))
      · exact .inr (.inr (.inl ⟨h1, h2, h3⟩))
    · exact .inr (.inl ⟨h1, h2⟩)
  · exact .inl h1
set_option maxRecDepth 100000 in
set_option maxHeartbeats 8000000 in
theorem print_any (c : Cmd) (hc : CmdIn c) (hlen : ∀ k < 9, c.data.size ≤ 512 → (lineK k c).length ≤ 140737488355328) (w : World) (hg : GE w) :
    Calls Tryz.prog 21 #[cmdV c] w fun e w' => PrintE c e ∧ Below w.heap.size w w' := by
  obtain ⟨w1, hw1⟩ : ∃ w1, w.alloc (CmdObj c) = w1 := ⟨_, rfl⟩
  have hB1 : Below w.heap.size w w1 := by rw [← hw1]; exact (Below.refl _ w).alloc (Nat.le_refl _) _
  have ha1 : CmdAt c w.heap.size w1 := by rw [← hw1]; exact .new _ _
  obtain ⟨c0, c1, c2, c3, c4⟩ := ha1.cells
  have HB1 := Lib.hid hB1
  have HA1 := Lib.hid ha1
  have HG := Lib.hid hg
  have HC := Lib.hid hc
  have HLn := Lib.hid hlen
  unfold cmdV
  unfold CmdObj at hw1
  clear hB1 ha1 hg hc hlen
  by_cases h0 : c.kind < 0
  · have HE := Lib.hid (show ¬ MayC c from fun ⟨k, _, h, _⟩ => by omega)
    go_enter Tryz.func21, Tryz.ntmps21
    go_wp2
    go_ret2
    exact ⟨.inr ⟨HE.out, rfl⟩, HB1.out⟩
  · by_cases h9 : 9 ≤ c.kind
    · have HE := Lib.hid (show ¬ MayC c from fun ⟨k, _, h, _⟩ => by omega)
      go_enter Tryz.func21, Tryz.ntmps21
      go_wp2
      go_ret2
      exact ⟨.inr ⟨HE.out, rfl⟩, HB1.out⟩
    · by_cases hd : c.data.size ≤ 512
      · have hdi : ¬ (512 : Int) < (c.data.size : Int) := by omega
        obtain ⟨k, hk⟩ : ∃ k : Nat, c.kind = k := ⟨c.kind.toNat, by omega⟩
        have hk9 : k < 9 := by omega
        have h9' : ¬ (9 : Int) ≤ (k : Int) := by omega
        have h0' : ¬ (k : Int) < 0 := by omega
        have HK := Lib.hid hk
        rw [hk] at c0 hw1 ⊢
        clear h0 h9 hk
        have HD := Lib.hid hd
        clear hd
        go_enter Tryz.func21, Tryz.ntmps21
        go_upto_region 3 with fail
        have d0 : w1.drew.cell? ⟨w.heap.size, 0, none⟩ = some (.int .i64 k) := c0
        have d1 : w1.drew.cell? ⟨w.heap.size, 1, none⟩ = some (.string c.path) := c1
        have d2 : w1.drew.cell? ⟨w.heap.size, 2, none⟩ = some (.string c.dest) := c2
        have d3 : w1.drew.cell? ⟨w.heap.size, 3, none⟩ = some (.int .i64 c.place) := c3
        have d4 : w1.drew.cell? ⟨w.heap.size, 4, none⟩ = some (.string c.data) := c4
        have CF := forms_any w1.drew
        clear c0 c1 c2 c3 c4
        refine wp_region_held_drew (S := fun w' => w'.cell? ⟨w.heap.size, 0, none⟩ = some (.int .i64 k) ∧ w'.cell? ⟨w.heap.size, 1, none⟩ = some (.string c.path) ∧ w'.cell? ⟨w.heap.size, 2, none⟩ = some (.string c.dest) ∧ w'.cell? ⟨w.heap.size, 3, none⟩ = some (.int .i64 c.place) ∧ w'.cell? ⟨w.heap.size, 4, none⟩ = some (.string c.data)) (by kernel_rfl) ⟨d0, d1, d2, d3, d4⟩ (fun hHeld => ?_)
        refine tkH 22 (i := 1) (v := .pointer (some ⟨w.heap.size, 0, none⟩)) (h := ?_)
        simp only [Act.put, stA, st0, st1]
        refine tkH 23 (i := 2) (v := .int .i64 k) (h := ?_)
        simp only [Act.put, stA, st0, st1]
        refine tkH 25 (i := 4) (v := .agg #[.int .i64 k, .string c.path, .string c.dest, .int .i64 c.place, .string c.data]) (h := ?_)
        simp only [Act.put, stA, st0, st1]
        refine wpAnyH_ready (rs := [0]) (by kernel_rfl) (by simp) ?_
        refine AllReadyH.cons rfl (fun K hK => ?_) (AllReadyH.nil)
        go_simp
        go_at_call 51
        refine CF.mono ?_
        rintro e w2 ⟨g, rfl, hfa, hB2⟩
        have HB2 := Lib.hid (HB1.out.drew.trans (hB2.mono HB1.out.size))
        have HA2 := Lib.hid (show CmdAt c w.heap.size w2 from ⟨keeps_of (w := w1.drew) hB2 HA1.out.obj⟩)
        have X := fun W => index_forms g hk9 W
        generalize formsV g = V at *
        have CL := lay_any k hk9 c HC.out HD.out (HLn.out k hk9 HD.out) (g k) w2 (hfa k hk9) (HG.out.below HB2.out)
        unfold formV cmdV at CL
        rw [HK.out] at CL
        obtain ⟨y0, y1, y2, y3, y4⟩ := HA2.out.cells
        rw [HK.out] at y0
        clear hfa hB2
        go_wp2_with fail
        refine hK.out _ _ ⟨y0, y1, y2, y3, y4⟩ (fun hHeld => ?_)
        clear hK K
        try simp only [Act.put, stA, st0, st1]
        refine tkH 24 (i := 3) (v := .agg #[.string (wordK k), .slice (some ⟨g k, 0, none⟩) (fldK k).length (fldK k).length]) (h := ?_)
        simp only [Act.put, stA, st0, st1]
        refine wpAnyH_ready (rs := [5]) (by kernel_rfl) (by simp) ?_
        refine AllReadyH.cons rfl (fun K hK => ?_) (AllReadyH.nil)
        go_simp
        go_at_call 50
        refine CL.mono ?_
        rintro e w3 ⟨rfl, hB3⟩
        have HB3 := Lib.hid (HB2.out.trans (hB3.mono HB2.out.size))
        have HA3 := Lib.hid (HA2.out.later hB3)
        obtain ⟨z0, z1, z2, z3, z4⟩ := HA3.out.cells
        rw [HK.out] at z0
        clear hB3
        go_wp2_with fail
        refine hK.out _ _ ⟨z0, z1, z2, z3, z4⟩ (fun hHeld => ?_)
        clear hK K
        try simp only [Act.put, stA, st0, st1]
        refine tkH 4 (i := 6) (v := .string (bs (lineK k c))) (h := ?_)
        simp only [Act.put, stA, st0, st1]
        refine wpAnyH_done (by kernel_rfl) ?_ _
        clear y0 y1 y2 y3 y4 hHeld X CF CL d0 d1 d2 d3 d4
        have HS := Lib.hid (show (bs (lineK k c)).size ≤ 281474976710656 by rw [bs_size]; have := HLn.out k hk9 HD.out; omega)
        have CP := parse_any (bs (lineK k c)) HS.out w3 (HG.out.below HB3.out)
        have HNo := Lib.hid (fun h => not_may' (c := c) (k := k) HK.out h)
        have HNe := Lib.hid (fun d h hn => not_may (c := c) (d := d) (k := k) HK.out h hn)
        have HYes := Lib.hid (fun h => is_may (c := c) (k := k) HK.out h)
        obtain ⟨Ln, hLn⟩ : ∃ Ln, bs (lineK k c) = Ln := ⟨_, rfl⟩
        rw [hLn] at CP HNo HNe HYes ⊢
        have HLine := Lib.hid hLn
        clear hLn HS
        go_wp2_with fail
        refine CP.mono ?_
        rintro e w4 ⟨hpe, hB4⟩
        have HB4 := Lib.hid (HB3.out.trans (hB4.mono HB3.out.size))
        have HA4 := Lib.hid (HA3.out.later hB4)
        clear hB4 CP z0 z1 z2 z3 z4
        rcases hpe with ⟨d, hd, rfl⟩ | ⟨hno, rfl⟩
        · obtain ⟨w5, hw5⟩ : ∃ w5, w4.alloc (CmdObj zeroC) = w5 := ⟨_, rfl⟩
          have ha5 : CmdAt zeroC w4.heap.size w5 := by rw [← hw5]; exact .new _ _
          have hB5 : Below w4.heap.size w4 w5 := by rw [← hw5]; exact (Below.refl _ w4).alloc (Nat.le_refl _) _
          obtain ⟨u1, u2, u3, u4, u5, ⟨e1, e2, e3, e4, e5⟩, ⟨p1, p2, p3, p4, p5⟩, ⟨f1, f2, f3, f4, f5⟩, ha6, hs6⟩ := cmd_store d ha5
          have hwl := lt_of_heap HA4.out.obj
          have hA6 := (HA4.out.later hB5).stir hs6 (by omega)
          have HB6 := Lib.hid ((HB4.out.trans (hB5.mono HB4.out.size)).trans (hs6.below (B := w.heap.size) (fun i hi => by subst hi; omega) (Nat.le_trans HB4.out.size hB5.size)))
          obtain ⟨q0, q1, q2, q3, q4⟩ := ha6.cells
          obtain ⟨r0, r1, r2, r3, r4⟩ := hA6.cells
          rw [HK.out] at r0
          have HDL := Lib.hid hd
          unfold zeroC at p1 p2 p3 p4 p5
          unfold CmdObj zeroC at hw5
          simp only at p1 p2 p3 p4 p5 hw5
          unfold cmdV
          clear ha5 hB5 ha6 hs6 hA6 hd
          go_upto_region 5 with fail
          clear e1 e2 e3 e4 e5 p1 p2 p3 p4 p5 f1 f2 f3 f4 f5 hw5
          by_cases hdc : d = c
          · have HE := Lib.hid (HYes.out (hdc ▸ HDL.out))
            subst hdc
            rw [HK.out] at q0
            go_wp2
            go_ret2
            exact ⟨.inl ⟨k, HE.out.1, HK.out, HE.out.2, by rw [HLine.out]; rfl⟩, HB6.out⟩
          · have HE := Lib.hid (HNe.out d HDL.out hdc)
            have hne := cmd_ne hdc
            rw [HK.out] at hne
            clear hdc
            rcases hne with h1 | ⟨h1, h2⟩ | ⟨h1, h2, h3⟩ | ⟨h1, h2, h3, h4⟩ | ⟨h1, h2, h3, h4, h5⟩
            · go_wp2
              go_ret2
              exact ⟨.inr ⟨HE.out, rfl⟩, HB6.out⟩
            · obtain ⟨n1, n2⟩ := texts_ne2 h2
              go_wp2
              go_ret2
              exact ⟨.inr ⟨HE.out, rfl⟩, HB6.out⟩
            · obtain ⟨n1, n2⟩ := texts_ne2 h3
              go_wp2
              go_ret2
              exact ⟨.inr ⟨HE.out, rfl⟩, HB6.out⟩
            · go_wp2
              go_ret2
              exact ⟨.inr ⟨HE.out, rfl⟩, HB6.out⟩
            · obtain ⟨n1, n2⟩ := texts_ne2 h5
              go_wp2
              go_ret2
              exact ⟨.inr ⟨HE.out, rfl⟩, HB6.out⟩
        · have HE := Lib.hid (HNo.out hno)
          have HB5 := Lib.hid HB4.out
          obtain ⟨w5, hw5⟩ : ∃ w5, w4.alloc (CmdObj zeroC) = w5 := ⟨_, rfl⟩
          have ha5 : CmdAt zeroC w4.heap.size w5 := by rw [← hw5]; exact .new _ _
          have hB5 : Below w4.heap.size w4 w5 := by rw [← hw5]; exact (Below.refl _ w4).alloc (Nat.le_refl _) _
          obtain ⟨u1, u2, u3, u4, u5, ⟨e1, e2, e3, e4, e5⟩, ⟨p1, p2, p3, p4, p5⟩, ⟨f1, f2, f3, f4, f5⟩, ha6, hs6⟩ := cmd_store zeroC ha5
          have hwl := lt_of_heap HA4.out.obj
          have HB6 := Lib.hid ((HB4.out.trans (hB5.mono HB4.out.size)).trans (hs6.below (B := w.heap.size) (fun i hi => by subst hi; omega) (Nat.le_trans HB4.out.size hB5.size)))
          unfold zeroC at p1 p2 p3 p4 p5 e1 e2 e3 e4 e5
          unfold CmdObj zeroC at hw5
          unfold cmdV zeroC
          simp only at p1 p2 p3 p4 p5 hw5 e1 e2 e3 e4 e5
          clear ha5 hB5 ha6 hs6 hno
          go_wp2
          go_ret2
          exact ⟨.inr ⟨HE.out, rfl⟩, HB6.out⟩
      · have hdi : (512 : Int) < (c.data.size : Int) := by omega
        have HE := Lib.hid (show ¬ MayC c from fun ⟨k, hk, _, h⟩ => hd (h.data hk))
        clear hd
        go_enter Tryz.func21, Tryz.ntmps21
        go_wp2
        go_ret2
        exact ⟨.inr ⟨HE.out, rfl⟩, HB1.out⟩
end Go.Proofs.YtfokdmijkniomaaGreatDoor

