/-
  read: the command of a kind whose fields some words are.
-/
import Derived.Test.YtmloljjllmmkoaaDoorCmdF
namespace Go.Proofs.YtmloljjllmmkoaaDoor
open Go.RowKit Go

/-- a command is stored, cell by cell -/
theorem cmd_store {z : Cmd} (c : Cmd) {b : Nat} {w : World} (h : CmdAt z b w) : ∃ u1 u2 u3 u4 u5,
    (w.setCell ⟨b, 0, none⟩ (.int .i64 c.kind) = u1 ∧ u1.setCell ⟨b, 1, none⟩ (.string c.path) = u2 ∧ u2.setCell ⟨b, 2, none⟩ (.string c.dest) = u3 ∧ u3.setCell ⟨b, 3, none⟩ (.int .i64 c.place) = u4 ∧ u4.setCell ⟨b, 4, none⟩ (.string c.data) = u5) ∧
    (w.cell? ⟨b, 0, none⟩ = some (.int .i64 z.kind) ∧ u1.cell? ⟨b, 1, none⟩ = some (.string z.path) ∧ u2.cell? ⟨b, 2, none⟩ = some (.string z.dest) ∧ u3.cell? ⟨b, 3, none⟩ = some (.int .i64 z.place) ∧ u4.cell? ⟨b, 4, none⟩ = some (.string z.data)) ∧
    (w.frozen? ⟨b, 0, none⟩ = false ∧ u1.frozen? ⟨b, 1, none⟩ = false ∧ u2.frozen? ⟨b, 2, none⟩ = false ∧ u3.frozen? ⟨b, 3, none⟩ = false ∧ u4.frozen? ⟨b, 4, none⟩ = false) ∧ CmdAt c b u5 ∧ Stir (fun i => i = b) w u5 := by
  obtain ⟨h⟩ := h
  unfold CmdObj at h
  obtain ⟨u1, e1⟩ : ∃ u, w.setCell ⟨b, 0, none⟩ (.int .i64 c.kind) = u := ⟨_, rfl⟩
  have h1 : u1.heap[b]? = some (.cells #[.int .i64 c.kind, .string z.path, .string z.dest, .int .i64 z.place, .string z.data] 30) := by rw [← e1, heap_set h]; rfl
  obtain ⟨u2, e2⟩ : ∃ u, u1.setCell ⟨b, 1, none⟩ (.string c.path) = u := ⟨_, rfl⟩
  have h2 : u2.heap[b]? = some (.cells #[.int .i64 c.kind, .string c.path, .string z.dest, .int .i64 z.place, .string z.data] 30) := by rw [← e2, heap_set h1]; rfl
  obtain ⟨u3, e3⟩ : ∃ u, u2.setCell ⟨b, 2, none⟩ (.string c.dest) = u := ⟨_, rfl⟩
  have h3 : u3.heap[b]? = some (.cells #[.int .i64 c.kind, .string c.path, .string c.dest, .int .i64 z.place, .string z.data] 30) := by rw [← e3, heap_set h2]; rfl
  obtain ⟨u4, e4⟩ : ∃ u, u3.setCell ⟨b, 3, none⟩ (.int .i64 c.place) = u := ⟨_, rfl⟩
  have h4 : u4.heap[b]? = some (.cells #[.int .i64 c.kind, .string c.path, .string c.dest, .int .i64 c.place, .string z.data] 30) := by rw [← e4, heap_set h3]; rfl
  obtain ⟨u5, e5⟩ : ∃ u, u4.setCell ⟨b, 4, none⟩ (.string c.data) = u := ⟨_, rfl⟩
  have h5 : u5.heap[b]? = some (CmdObj c) := by rw [← e5, heap_set h4]; rfl
  refine ⟨u1, u2, u3, u4, u5, ⟨e1, e2, e3, e4, e5⟩, ⟨?_, ?_, ?_, ?_, ?_⟩, ⟨?_, ?_, ?_, ?_, ?_⟩, ⟨h5⟩, ?_⟩
  · simp [World.cell?, h]
  · simp [World.cell?, h1]
  · simp [World.cell?, h2]
  · simp [World.cell?, h3]
  · simp [World.cell?, h4]
  · simp [World.frozen?, h]
  · simp [World.frozen?, h1]
  · simp [World.frozen?, h2]
  · simp [World.frozen?, h3]
  · simp [World.frozen?, h4]
  · rw [← e5, ← e4, ← e3, ← e2, ← e1]
    exact (((((Stir.refl (fun i => i = b) w).set (.inl rfl) _).set (.inl rfl) _).set (.inl rfl) _).set (.inl rfl) _).set (.inl rfl) _
def zeroC : Cmd := ⟨0, ⟨#[]⟩, ⟨#[]⟩, 0, ⟨#[]⟩⟩
theorem CmdAt.stir {c : Cmd} {a b : Nat} {w w' : World} (h : CmdAt c a w) (s : Stir (fun i => i = b) w w') (hn : a ≠ b) : CmdAt c a w' := ⟨s.keep h.obj hn⟩
/-- what read answers -/
def ReadE (k : Nat) (ws : List ByteArray) (e : Ending) : Prop :=
  (∃ d, ReadsF (fldK k) ws (cmd0 k) d ∧ e = .returned (.tuple #[cmdV d, .int .i64 0])) ∨ ((∀ d, ¬ ReadsF (fldK k) ws (cmd0 k) d) ∧ e = .returned (.tuple #[cmdV zeroC, .int .i64 130]))
theorem drop_step {fs : List Fld} {ws : List ByteArray} {j : Nat} (h1 : j < fs.length) (h2 : j < ws.length) {c d e : Cmd} (h : FldRd ws[j] c fs[j] e) : ReadsF (fs.drop j) (ws.drop j) c d ↔ ReadsF (fs.drop (j + 1)) (ws.drop (j + 1)) e d := by
  rw [List.drop_eq_getElem_cons h1, List.drop_eq_getElem_cons h2]
  exact ReadsF.step h
theorem drop_stop {fs : List Fld} {ws : List ByteArray} {j : Nat} (h1 : j < fs.length) (h2 : j < ws.length) {c d : Cmd} (h : ∀ e, ¬ FldRd ws[j] c fs[j] e) : ¬ ReadsF (fs.drop j) (ws.drop j) c d := by
  rw [List.drop_eq_getElem_cons h1, List.drop_eq_getElem_cons h2]
  exact ReadsF.stop h
set_option maxRecDepth 100000 in
set_option maxHeartbeats 4000000 in
theorem read_any (k : Nat) (hk : k < 9) (ws : List ByteArray) (hl : ws.length = (fldK k).length) (hsz : ∀ s ∈ ws, s.size ≤ 281474976710656) (g bw off cw : Nat) (w : World) (hfa : w.heap[g]? = some (fieldsObj ((fldK k).map fldN))) (hbw : bw < w.heap.size)
    (hcw : ∀ j (h : j < ws.length), w.cell? ⟨bw, off + j, none⟩ = some (.string ws[j])) (hg : GE w) :
    Calls Tryd.prog 27 #[.int .i64 k, .slice (some ⟨g, 0, none⟩) (fldK k).length (fldK k).length, .slice (some ⟨bw, off, none⟩) (fldK k).length cw] w fun e w' => ReadE k ws e ∧ Below w.heap.size w w' := by
  obtain ⟨m, hm⟩ : ∃ m, (fldK k).length = m := ⟨_, rfl⟩
  have hm3 : m ≤ 3 := by rw [← hm]; exact (fldK_len hk).2
  obtain ⟨w1, hw1⟩ : ∃ w1, w.alloc (CmdObj zeroC) = w1 := ⟨_, rfl⟩
  have hB1 : Below w.heap.size w w1 := by rw [← hw1]; exact (Below.refl _ w).alloc (Nat.le_refl _) _
  have ha1 : CmdAt zeroC w.heap.size w1 := by rw [← hw1]; exact .new _ _
  obtain ⟨w2, hw2⟩ : ∃ w2, w1.alloc (CmdObj zeroC) = w2 := ⟨_, rfl⟩
  have hB2 : Below w1.heap.size w1 w2 := by rw [← hw2]; exact (Below.refl _ w1).alloc (Nat.le_refl _) _
  have ha2 : CmdAt zeroC w1.heap.size w2 := by rw [← hw2]; exact .new _ _
  obtain ⟨u1, u2, u3, u4, u5, ⟨e1, e2, e3, e4, e5⟩, ⟨c1, c2, c3, c4, c5⟩, ⟨f1, f2, f3, f4, f5⟩, ha5, hs5⟩ := cmd_store (cmd0 k) ha2
  have hlt1 : w.heap.size < w1.heap.size := lt_of_heap ha1.obj
  have HA := Lib.hid ha5
  have HZ := Lib.hid ((ha1.later hB2).stir hs5 (by omega))
  have HB := Lib.hid (show Below w.heap.size w u5 from (hB1.trans (hB2.mono hB1.size)).trans (hs5.below (fun i hi => by subst hi; exact hB1.size) (Nat.le_trans hB1.size hB2.size)))
  have HFA := Lib.hid (show ∀ W, Below w.heap.size w W → ∀ i (h : i < (fldK k).length), W.cell? ⟨g, i, none⟩ = some (.int .i64 (fldN (fldK k)[i])) from fun W h i hi => fields_cell (keeps_of h hfa) hi)
  have HCW := Lib.hid (show ∀ W, Below w.heap.size w W → ∀ j (h : j < ws.length), W.cell? ⟨bw, off + j, none⟩ = some (.string ws[j]) from fun W h j hj => (h.cell (p := ⟨bw, off + j, none⟩) hbw).trans (hcw j hj))
  have HM := Lib.hid hm
  have HL := Lib.hid hl
  have HG := Lib.hid hg
  have HSZ := Lib.hid hsz
  have hk9 : (k : Int) < 9 := by omega
  unfold zeroC at c1 c2 c3 c4 c5
  unfold cmd0 at e1 e2 e3 e4 e5
  simp only at c1 c2 c3 c4 c5 e1 e2 e3 e4 e5
  unfold CmdObj zeroC at hw1 hw2
  simp only at hw1 hw2
  rw [hm]
  clear hB1 hB2 ha1 ha2 ha5 hs5 hfa hcw hg hm hl hsz
  go_enter Tryd.func27, Tryd.ntmps27
  go_wp2
  clear c1 c2 c3 c4 c5 f1 f2 f3 f4 f5
  go_loopw [15] (fun i wr => ∃ (j : Nat) (c : Cmd), j ≤ m ∧ i = .int .i64 j ∧ Hid (CmdAt c w1.heap.size wr) ∧ Hid (CmdAt zeroC w.heap.size wr) ∧ Hid (Below w.heap.size w wr) ∧ Hid (∀ d, ReadsF (fldK k) ws (cmd0 k) d ↔ ReadsF ((fldK k).drop j) (ws.drop j) c d)) (fun i _ => m - (intOf i).toNat)
  case atStart => exact ⟨0, cmd0 k, Nat.zero_le _, rfl, HA, HZ, HB, Lib.hid (fun d => Iff.rfl)⟩
  case round =>
    clear hw1 hw2 e1 e2 e3 e4 e5
    obtain ⟨j, c, hj, rfl, HAr, HZr, HBr, HR⟩ := hrel
    by_cases hlt : j < m
    · have hji : (j : Int) < (m : Int) := by omega
      have hjf : j < (fldK k).length := by rw [HM.out]; exact hlt
      have hjw : j < ws.length := by rw [HL.out]; exact hjf
      have hcf := HFA.out wr HBr.out j hjf
      have hcw := HCW.out wr HBr.out j hjw
      have hsw := HSZ.out ws[j] (List.getElem_mem hjw)
      have HY := Lib.hid (fun e h => fun d => (HR.out d).trans (drop_step (d := d) hjf hjw (c := c) (e := e) h))
      have HNo := Lib.hid (fun h => fun d hh => drop_stop (d := d) hjf hjw (c := c) h ((HR.out d).1 hh))
      have CL := fun W => clone_any ws[j] hsw W
      have CR := fun W (h : CmdAt c w1.heap.size W) (hg : GE W) => fldRead_any (fldK k)[j] c w1.heap.size ws[j] hsw W h hg
      unfold FldE at CR
      generalize ws[j] = X at *
      generalize (fldK k)[j] = f at *
      obtain ⟨F, hF⟩ : ∃ F, fldN f = F := ⟨_, rfl⟩
      rw [hF] at hcf CR
      clear hjf hjw hF
      go_wp2_with fail
      refine (CL _).mono ?_
      rintro e w4 ⟨rfl, hB4⟩
      have HB4 := Lib.hid (HBr.out.trans (hB4.mono HBr.out.size))
      have HA4 := Lib.hid (HAr.out.later hB4)
      have HZ4 := Lib.hid (HZr.out.later hB4)
      have CR4 := CR w4 HA4.out (HG.out.below HB4.out)
      clear hB4 CL CR hcf hcw hsw
      go_wp2_with fail
      refine CR4.mono ?_
      rintro e w5 ⟨hfe, hs5⟩
      have HB5 := Lib.hid (HB4.out.trans (hs5.below (B := w.heap.size) (fun i hi => by subst hi; omega) HB4.out.size))
      have HZ5 := Lib.hid (HZ4.out.stir hs5 (by omega))
      clear hs5 CR4
      rcases hfe with ⟨d, hd, rfl, had⟩ | ⟨hno, rfl, d, had⟩
      · have HR5 := Lib.hid (HY.out d hd)
        have HA5 := Lib.hid had
        clear hd had
        go_wp2
        go_roundw
        case rel => exact ⟨j + 1, d, hlt, by go_num, HA5, HZ5, HB5, HR5⟩
        case measure => simp [intOf]; omega
      · have HE := Lib.hid (HNo.out hno)
        obtain ⟨u1, u2, u3, u4, u5, ⟨e1, e2, e3, e4, e5⟩, ⟨c1, c2, c3, c4, c5⟩, ⟨f1, f2, f3, f4, f5⟩, ha6, hs6⟩ := cmd_store zeroC HZ5.out
        have HB6 := Lib.hid (HB5.out.trans (hs6.below (B := w.heap.size) (fun i hi => by subst hi; exact Nat.le_refl _) HB5.out.size))
        obtain ⟨q1, q2, q3, q4, q5⟩ := ha6.cells
        unfold zeroC at c1 c2 c3 c4 c5 e1 e2 e3 e4 e5 q1 q2 q3 q4 q5
        simp only at c1 c2 c3 c4 c5 e1 e2 e3 e4 e5 q1 q2 q3 q4 q5
        clear ha6 hs6 hno had
        go_wp2
        refine bodyPost_ret ?_ rfl ⟨.inr ⟨HE.out, rfl⟩, HB6.out⟩
        rw [results_cell_tmp rfl]
        go_simp
        try rfl
    · obtain rfl : j = m := by omega
      have HE := Lib.hid (show ReadsF (fldK k) ws (cmd0 k) c from (HR.out c).2 (by
        rw [List.drop_of_length_le (by rw [HM.out]; exact Nat.le_refl _), List.drop_of_length_le (by rw [HL.out, HM.out]; exact Nat.le_refl _)]
        rfl))
      obtain ⟨g1, g2, g3, g4, g5⟩ := HAr.out.cells
      obtain ⟨u1, u2, u3, u4, u5, ⟨e1, e2, e3, e4, e5⟩, ⟨c1, c2, c3, c4, c5⟩, ⟨f1, f2, f3, f4, f5⟩, ha6, hs6⟩ := cmd_store c HZr.out
      have HB6 := Lib.hid (HBr.out.trans (hs6.below (B := w.heap.size) (fun i hi => by subst hi; exact Nat.le_refl _) HBr.out.size))
      obtain ⟨q1, q2, q3, q4, q5⟩ := ha6.cells
      unfold zeroC at c1 c2 c3 c4 c5
      simp only at c1 c2 c3 c4 c5
      clear ha6 hs6
      go_wp2
      refine bodyPost_ret ?_ rfl ⟨.inl ⟨c, HE.out, rfl⟩, HB6.out⟩
      rw [results_cell_tmp rfl]
      go_simp
      try rfl
end Go.Proofs.YtmloljjllmmkoaaDoor

