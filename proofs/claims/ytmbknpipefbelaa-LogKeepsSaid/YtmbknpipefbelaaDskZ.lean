/-
  The reference's disk: step, goes, Sync, Arm, Crash, Revive, Read.
-/
import Derived.Test.YtmbknpipefbelaaDskY
namespace Go.Proofs.Ytmbknpipefbelaa
open Go.RowKit Go Go.Maps SM

/-- what a call of the reference turns: blocks of its own kinds -/
def RStir (base : Nat) (w w' : World) : Prop := ∃ F : Nat → Prop, Stir F w w' ∧ ∀ i, F i → ∃ C t f, w.heap[i]? = some (.cells C t f) ∧ (t = 81 ∨ t = 9) ∧ base ≤ i
section
variable {base : Nat} {w w' w'' : World}
theorem RStir.refl (base : Nat) (w : World) : RStir base w w := ⟨fun _ => False, Stir.refl _ w, fun _ h => h.elim⟩
theorem RStir.of_below (h : Below w.heap.size w w') : RStir base w w' := ⟨fun _ => False, Stir.of_below h, fun _ h => h.elim⟩
theorem DiskAt.ref {b g m : Nat} {s : DS} (h : DiskAt b g m s w) (k : RStir base w w') : DiskAt b g m s w' := by
  obtain ⟨F, hs, hF⟩ := k
  exact h.stay hs (fun i hi hf => by
    obtain ⟨C, t, f, hC, rfl | rfl, _⟩ := hF i hf
    · exact h.not_cells hC (by decide) (by decide) hi
    · exact h.not_cells hC (by decide) (by decide) hi)
theorem RStir.below {B : Nat} {w0 : World} (k : RStir B w w') (h0 : Below B w0 w) (hB : B ≤ w.heap.size) : Below B w0 w' := by
  obtain ⟨F, hs, hF⟩ := k
  exact h0.trans (hs.below (fun i hi => by obtain ⟨C, t, f, _, _, h⟩ := hF i hi; exact h) hB)
/-- a block of another kind stays -/
theorem RStir.keep (k : RStir base w w') {i : Nat} {t : TypeId} {C : Array Value} {f : Nat × Nat} (h : w.heap[i]? = some (.cells C t f)) (h1 : t ≠ 81) (h2 : t ≠ 9) : w'.heap[i]? = some (.cells C t f) := by
  obtain ⟨F, hs, hF⟩ := k
  exact hs.keep h (fun hi => by
    obtain ⟨C', t', f', hC, ht, _⟩ := hF i hi
    rw [h] at hC
    simp at hC
    rcases ht with e | e
    · exact h1 (hC.2.1.trans e)
    · exact h2 (hC.2.1.trans e))
end

section
variable {r base : Nat} {s : DS} {zs : List Int} {v0 v1 v2 : Value} {kp : ByteArray} {w w' : World}
/-- what the reference's own blocks are -/
def RF (r : Nat) (v0 : Value) : Nat → Prop := fun k => k = r ∨ v0.ownBlock = some k
theorem RefAt.stir (h : RefAt r base s zs v0 v1 v2 kp w) (k : Stir (RF r v0) w w') : RStir base w w' :=
  ⟨_, k, fun i hi => by
    rcases hi with rfl | hi
    · exact ⟨_, _, _, h.obj, .inl rfl, h.low⟩
    · obtain ⟨C, hC⟩ := owns_block h.st hi
      exact ⟨C, _, _, hC, .inr rfl, (h.st.lt _ hi).1⟩⟩

set_option maxRecDepth 100000 in
theorem rstep_at (h : RefAt r base s zs v0 v1 v2 kp w) (hk : s.armed ≤ 9223372036854775807) (hm : s.made < 1099511627776) :
    Calls Try.prog 76 #[.pointer (some ⟨r, 0, none⟩)] w fun e w' => e = .returned (.bool (s.armed == 1)) ∧ RefAt r base s.tick zs v0 v1 v2 kp w' ∧ Stir (RF r v0) w w' := by
  have c3 := RO.c3 h.obj
  have f3 := RO.fr h.obj 3
  have harm := hk
  by_cases ha : s.armed = 0
  · have h1 : RefAt r base s.tick zs v0 v1 v2 kp (w.setCell ⟨r, 3, none⟩ (.int .i64 ((s.made : Int) + 1))) :=
      h.cell (s' := s.tick) (kp' := kp) 3 _ rfl rfl rfl (by simp [DS.tick, ha]) h.kple (by rw [heap_set h.obj]; simp [RO, DS.tick, ha])
    have S1 : Stir (RF r v0) w (w.setCell ⟨r, 3, none⟩ (.int .i64 ((s.made : Int) + 1))) := (Stir.refl (RF r v0) w).set (.inl (.inl rfl)) _
    have c4 : (w.setCell ⟨r, 3, none⟩ (.int .i64 ((s.made : Int) + 1))).cell? ⟨r, 4, none⟩ = some (.int .i64 0) := by
      have := RO.c4 h1.obj
      simpa [DS.tick, ha] using this
    have e1 : (s.armed == 1) = false := by rw [ha]; rfl
    rw [e1]
    have H1 := Lib.hid h1
    have HS := Lib.hid S1
    clear h h1 S1 hk ha e1
    generalize s.made = M at *
    go_enter Try.func76, Try.ntmps76
    go_wp2
    go_ret
    exact ⟨rfl, H1.out, HS.out⟩
  · obtain ⟨a, ea⟩ : ∃ a, s.armed = a + 1 := ⟨s.armed - 1, by omega⟩
    have h1 : RefAt r base { s with made := s.made + 1 } zs v0 v1 v2 kp (w.setCell ⟨r, 3, none⟩ (.int .i64 ((s.made : Int) + 1))) :=
      h.cell (s' := { s with made := s.made + 1 }) (kp' := kp) 3 _ rfl rfl rfl h.keep h.kple (by rw [heap_set h.obj]; simp [RO])
    have h2 : RefAt r base s.tick zs v0 v1 v2 kp ((w.setCell ⟨r, 3, none⟩ (.int .i64 ((s.made : Int) + 1))).setCell ⟨r, 4, none⟩ (.int .i64 (a : Int))) :=
      h1.cell (s' := s.tick) (kp' := kp) 4 _ rfl rfl rfl (fun _ => h.keep (by omega)) h.kple (by rw [heap_set h1.obj]; simp [RO, DS.tick, ea])
    have S2 : Stir (RF r v0) w ((w.setCell ⟨r, 3, none⟩ (.int .i64 ((s.made : Int) + 1))).setCell ⟨r, 4, none⟩ (.int .i64 (a : Int))) := ((Stir.refl (RF r v0) w).set (.inl (.inl rfl)) _).set (.inl (.inl rfl)) _
    have c4 : (w.setCell ⟨r, 3, none⟩ (.int .i64 ((s.made : Int) + 1))).cell? ⟨r, 4, none⟩ = some (.int .i64 ((a : Int) + 1)) := by
      have := RO.c4 h1.obj
      rw [this, show ({ s with made := s.made + 1 } : DS).armed = a + 1 from ea]
      simp
    have f4 : (w.setCell ⟨r, 3, none⟩ (.int .i64 ((s.made : Int) + 1))).frozen? ⟨r, 4, none⟩ = false := RO.fr h1.obj 4
    have c4' : ((w.setCell ⟨r, 3, none⟩ (.int .i64 ((s.made : Int) + 1))).setCell ⟨r, 4, none⟩ (.int .i64 (a : Int))).cell? ⟨r, 4, none⟩ = some (.int .i64 (a : Int)) := by
      have := RO.c4 h2.obj
      simpa [DS.tick, ea] using this
    have e1 : (s.armed == 1) = ((a : Int) == 0) := by
      rw [ea]
      by_cases e : a = 0
      · subst e; rfl
      · rw [beq_eq_false_iff_ne.2 (by omega), beq_eq_false_iff_ne.2 (by omega)]
    rw [e1]
    have H2 := Lib.hid h2
    have HS := Lib.hid S2
    have ha1 : (a : Int) ≤ 9223372036854775806 := by omega
    clear h h1 h2 S2 hk ha e1 ea harm
    generalize s.made = M at *
    go_enter Try.func76, Try.ntmps76
    go_wp2
    go_ret
    exact ⟨rfl, H2.out, HS.out⟩

/-- some loose sectors have been laid down -/
def DS.upTo (s : DS) (f : Nat → Bool) (k : Nat) : DS := { s with stay := laid (fun p => decide (p < k) && f p) s.loose s.stay }
theorem upTo_zero (s : DS) (f : Nat → Bool) : s.upTo f 0 = s := by
  simp [DS.upTo, laid_none]
theorem upTo_all (s : DS) (f : Nat → Bool) : (s.upTo f s.loose.length).stay = laid f s.loose s.stay := by
  exact laid_congr (f := fun p => decide (p < s.loose.length) && f p) (g := f) (l := s.loose) (fun p hp => by simp [hp]) s.stay
theorem upTo_len (s : DS) (f : Nat → Bool) (k : Nat) : (s.upTo f k).stay.length = s.stay.length := length_laid (fun p => decide (p < k) && f p) s.loose s.stay
theorem upTo_skip (hk : s.Ok) (f : Nat → Bool) {k : Nat} (h : k < s.loose.length) (hf : f k = false) : s.upTo f (k + 1) = s.upTo f k := by
  unfold DS.upTo
  rw [laid_snoc hk.nd f k h s.stay (hk.key _ (List.getElem_mem h)).1, hf]
  rfl
theorem upTo_put (hk : s.Ok) (f : Nat → Bool) {k : Nat} (h : k < s.loose.length) (hf : f k = true) : (s.upTo f (k + 1)).stay = (s.upTo f k).stay.set s.loose[k].1.toNat s.loose[k].2 := by
  show laid (fun p => decide (p < k + 1) && f p) s.loose s.stay = (laid (fun p => decide (p < k) && f p) s.loose s.stay).set _ _
  rw [laid_snoc hk.nd f k h s.stay (hk.key _ (List.getElem_mem h)).1, hf, if_pos rfl]
/-- a store into the row of what stays -/
theorem RefAt.laid {q c : Nat} (h : RefAt r base s zs (.slice (some ⟨q, 0, none⟩) s.stay.length c) v1 v2 kp w) {s' : DS} {j : Nat} {x : ByteArray} (h1 : s'.stay = s.stay.set j x) (h2 : s'.loose = s.loose) (h3 : s'.bad = s.bad) (h4 : s'.made = s.made) (h5 : s'.armed = s.armed) (h6 : s'.keep = s.keep) (h7 : s'.dead = s.dead) :
    RefAt r base s' zs (.slice (some ⟨q, 0, none⟩) s.stay.length c) v1 v2 kp (w.setCell ⟨q, j, none⟩ (.string x)) := by
  obtain ⟨C, hC⟩ := owns_block h.st (show Value.ownBlock (.slice (some ⟨q, 0, none⟩) s.stay.length c) = some q from rfl)
  have hrq : r ≠ q := ne_of_heap h.obj hC (by simp [RO])
  refine ⟨by rw [heap_set_other h.obj hrq, h4, h5, h7], ?_, by rw [h2]; exact owns_other h.lo hC (by decide) _, owns_other h.ba hC (by decide) _, fun k => by rw [h3]; exact h.bads k, h.few, by rw [h5, h6]; exact h.keep, h.kple, h.low⟩
  have := (h.st.stored j (.string x)).1
  rw [h1, List.length_set, show strVals (s.stay.set j x) = (strVals s.stay).set j (.string x) by simp [strVals, List.map_set]]
  exact this

set_option maxRecDepth 100000 in
set_option maxHeartbeats 2000000 in
theorem rgoes_at (h : RefAt r base s zs v0 v1 v2 kp w) (hk : s.Ok) (hf : s.loose.length ≤ 1099511627776) {keep : ByteArray} (hkp : keep.size ≤ 140737488355328) :
    Calls Try.prog 77 #[.pointer (some ⟨r, 0, none⟩), .string keep] w fun e w' => e = .returned (.tuple #[]) ∧ (∃ v1' kp', RefAt r base (s.goes keep) zs v0 v1' v2 kp' w') ∧ Stir (RF r v0) w w' := by
  obtain ⟨a1, k1, rfl⟩ := row_shape h.lo
  obtain ⟨q, c, rfl, _, _⟩ := h.v0_is hk.pos
  have C := fun (k : Nat) (hk : k ≤ 1099511627776) w => rhas_any keep (k : Int) w hkp (by omega) (by omega)
  have H0 := Lib.hid h
  have HK := Lib.hid hk
  clear h
  go_enter Try.func77, Try.ntmps77
  go_wp2_with fail
  go_loopw [4] (fun i wr => ∃ k : Nat, k ≤ s.loose.length ∧ i = .int .i64 k ∧ RefAt r base (s.upTo (keepsAt keep) k) zs (.slice (some ⟨q, 0, none⟩) s.stay.length c) (.slice a1 s.loose.length k1) v2 kp wr ∧ Stir (RF r (.slice (some ⟨q, 0, none⟩) s.stay.length c)) w wr) (fun i _ => s.loose.length - (intOf i).toNat)
  case atStart => exact ⟨0, Nat.zero_le _, rfl, by rw [upTo_zero]; exact H0.out, Stir.refl _ _⟩
  case round =>
    obtain ⟨k, hkl, rfl, hr, hs⟩ := hrel
    have c1 := RO.c1 hr.obj
    have HR := Lib.hid hr
    have HS := Lib.hid hs
    clear hr hs H0 hk
    by_cases hlt : k < s.loose.length
    · have hki : (k : Int) < (s.loose.length : Int) := by omega
      have Ck := C k (by omega)
      cases hb : keepsAt keep k with
      | false =>
        have hb' : bitI keep.data.toList (k : Int) = false := hb
        rw [hb'] at Ck
        have HX := Lib.hid (show RefAt r base (s.upTo (keepsAt keep) (k + 1)) zs (.slice (some ⟨q, 0, none⟩) s.stay.length c) (.slice a1 s.loose.length k1) v2 kp wr by rw [upTo_skip HK.out _ hlt hb]; exact HR.out)
        clear hb hb' C
        go_wp2_with fail
        refine (Ck _).mono ?_
        rintro e w2 ⟨rfl, rfl⟩
        go_wp2_with fail
        go_roundw
        case rel => exact ⟨k + 1, by omega, by go_num, HX.out, HS.out⟩
        case measure => simp [intOf]; omega
      | true =>
        have hb' : bitI keep.data.toList (k : Int) = true := hb
        rw [hb'] at Ck
        obtain ⟨q1, c1', e1, hN, hS⟩ := HR.out.v1_cells (i := k) hlt
        simp only [Value.slice.injEq] at e1
        obtain ⟨rfl, -, hc1'⟩ := e1
        subst hc1'
        have hcN : wr.cell? ⟨q1, k * 2, none⟩ = some (.int .i64 s.loose[k].1) := hN
        have hcS : wr.cell? ⟨q1, k * 2 + 1, none⟩ = some (.string s.loose[k].2) := hS
        obtain ⟨k1', k2', k3'⟩ := HK.out.key _ (List.getElem_mem hlt)
        have hput := upTo_put HK.out (keepsAt keep) hlt hb
        obtain ⟨j, hj⟩ := Int.eq_ofNat_of_zero_le k1'
        rw [hj] at hcN k2'
        rw [hj, Int.toNat_natCast] at hput
        have hjn : j < s.stay.length := by omega
        have c0 := RO.c0 HR.out.obj
        have cQ : wr.cell? ⟨q, j, none⟩ = some (.string ((s.upTo (keepsAt keep) k).stay.getD j none0)) := by
          have hst := HR.out.st
          rw [upTo_len] at hst
          rw [hst.cellAt j (by omega)]
          simp [strVals, upTo_len, hjn]
        have fQ : wr.frozen? ⟨q, j, none⟩ = false := (by have hst := HR.out.st; rw [upTo_len] at hst; exact hst.frozenAt j)
        have hlen := upTo_len s (keepsAt keep) k
        have hX : RefAt r base (s.upTo (keepsAt keep) (k + 1)) zs (.slice (some ⟨q, 0, none⟩) s.stay.length c) (.slice (some ⟨q1, 0, none⟩) s.loose.length k1) v2 kp (wr.setCell ⟨q, j, none⟩ (.string s.loose[k].2)) := by
          have h0 := HR.out
          rw [← hlen] at h0 ⊢
          exact h0.laid hput rfl rfl rfl rfl rfl rfl
        have hS2 : Stir (RF r (.slice (some ⟨q, 0, none⟩) s.stay.length c)) w (wr.setCell ⟨q, j, none⟩ (.string s.loose[k].2)) := HS.out.set (.inl (.inr rfl)) _
        have HX := Lib.hid hX
        have HS2 := Lib.hid hS2
        generalize s.loose[k].2 = x at hcS HX HS2
        have hji : (j : Int) < (s.stay.length : Int) := by omega
        clear hb hb' C hN hS k1' k2' k3' hput hj hX hS2 hlen
        go_wp2_with fail
        refine (Ck _).mono ?_
        rintro e w2 ⟨rfl, rfl⟩
        go_wp2_with fail
        go_region
        all_goals (
          have HXd := Lib.hid (HX.out.below (Below.refl _ _).drew)
          have HSd := Lib.hid HS2.out.drew
          go_wp2
          go_roundw
          case rel => exact ⟨k + 1, by omega, by go_num, HXd.out, HSd.out⟩
          case measure => simp [intOf]; omega)
    · obtain rfl : k = s.loose.length := by omega
      have hki : ¬ ((s.loose.length : Nat) : Int) < (s.loose.length : Int) := by omega
      have ho := HR.out.obj
      have f1 := RO.fr ho 1
      have f6 := RO.fr ho 6
      have f4 := RO.fr ho 4
      have d4 := RO.c4 ho
      have d6 := RO.c6 ho
      have X : RefAt r base (s.goes keep) zs (.slice (some ⟨q, 0, none⟩) s.stay.length c) (.slice none 0 0) v2 kp (((wr.setCell ⟨r, 1, none⟩ (.slice none 0 0)).setCell ⟨r, 6, none⟩ (.bool true)).setCell ⟨r, 4, none⟩ (.int .i64 0)) := by
        refine ⟨?_, ?_, World.ownsRow_nil _ _ _ _, ?_, HR.out.bads, HR.out.few, by simp [DS.goes], HR.out.kple, HR.out.low⟩
        · rw [heap_set (heap_set (heap_set ho _) _)]
          simp [RO, DS.goes, DS.upTo]
        · have e1 : (s.goes keep).stay = (s.upTo (keepsAt keep) s.loose.length).stay := (upTo_all s (keepsAt keep)).symm
          rw [e1]
          have h1 := owns_other (i := 1) HR.out.st ho (by decide) (.slice none 0 0)
          have h2 := owns_other (i := 6) h1 (heap_set ho _) (by decide) (.bool true)
          exact owns_other (i := 4) h2 (heap_set (heap_set ho _) _) (by decide) (.int .i64 0)
        · have h1 := owns_other (i := 1) HR.out.ba ho (by decide) (.slice none 0 0)
          have h2 := owns_other (i := 6) h1 (heap_set ho _) (by decide) (.bool true)
          exact owns_other (i := 4) h2 (heap_set (heap_set ho _) _) (by decide) (.int .i64 0)
      have S : Stir (RF r (.slice (some ⟨q, 0, none⟩) s.stay.length c)) w (((wr.setCell ⟨r, 1, none⟩ (.slice none 0 0)).setCell ⟨r, 6, none⟩ (.bool true)).setCell ⟨r, 4, none⟩ (.int .i64 0)) :=
        ((HS.out.set (.inl (.inl rfl)) _).set (.inl (.inl rfl)) _).set (.inl (.inl rfl)) _
      have HX := Lib.hid X
      have HSX := Lib.hid S
      clear X S ho C
      go_wp2
      go_end0
      exact ⟨rfl, ⟨_, _, HX.out⟩, HSX.out⟩
end
end Go.Proofs.Ytmbknpipefbelaa
