/-
  A disk: settle, all stay; and what calls it.
-/
import Derived.Test.YtmbknpipefbelaaDskL
namespace Go.Proofs.Ytmbknpipefbelaa
open Go.RowKit Go Go.Maps SM

section
variable {b g cap m : Nat} {B : ByteArray} {a : Int} {s : DS} {cur : Array Value} {D : DataW Unit} {w : World}

set_option maxRecDepth 100000 in
set_option maxHeartbeats 1000000 in
theorem settle_all (h : DAt b g cap m B a s cur D w) (hk : s.Ok) (_hf : s.loose.length ≤ 1099511627776)  :
    Calls Try.prog 56 #[.pointer (some ⟨b, 0, none⟩), .func (.func 74) #[] #[]] w fun e w' => e = .returned (.tuple #[]) ∧ (∃ cur' D', DAt b g cap m B a (s.settledBy allP) cur' D' w') ∧ Stir (fun k => k = g ∨ k = m) w w' := by
  have c1 := DObj.c1 h.obj
  have hown := h.loose.own
  have hbl := h.loose.own.lt
  have HH := Lib.hid h
  clear h
  go_enter Try.func56, Try.ntmps56
  go_wp2_with (at_range; refine wpList_range_own _ rfl _ 66 rfl 3 93 lawM Try.underlying66 _ m s.loose.length D rfl hown ?_; intro w0 hrg0 hg0 hs0)
  go_frame
  have hB0 : Below w.heap.size w w0 := ⟨hg0.os, hg0.tape, hg0.output, hg0.size, fun k hk => hg0.block k hk (by simp)⟩
  have R0 : Round b g cap m B a s D allP w w0 w.heap.size (Maps.has D) (Maps.size D) := Round.start HH.out hrg0 hB0
  have HR0 := Lib.hid R0
  clear R0 hrg0 hg0 hs0 hB0 hown c1
  go_loopw [4, 5] (fun _ _ wr => ∃ left cnt, Round b g cap m B a s D allP w wr w.heap.size left cnt) (fun _ _ wr => wr.rangeLeft m w.heap.size)
  case atStart => exact ⟨_, _, HR0.out⟩
  case round =>
    obtain ⟨left, cnt, hr⟩ := hrel
    have hrg := hr.rng
    have HR := Lib.hid hr
    have hreads := HH.out.loose.reads
    clear hr HR0
    go_wp2_with (at_next; refine wpList_next_loose _ rfl _ rfl m w.heap.size s.loose.length D s.loose hreads _ _ rfl hrg ?_ ?_)
    · intro hc0 hl0
      have c1 := DObj.c1 HR.out.obj
      have hown := hrg.owns
      clear hrg
      go_wp2_with (refine wpList_clear_own _ rfl _ 66 rfl 3 93 Try.underlying66 _ m s.loose.length D rfl hown ?_; intro w2 hown2 hturn2)
      go_end0
      exact ⟨rfl, HR.out.cleared HH.out hl0 hown2 hturn2⟩
    · intro n p y w1 cnt1 hsk hlx hrg1 hlt hg1 hs1 hen
      have HR1 := Lib.hid (HR.out.came HH.out hsk hrg1 hg1)
      have HL1 := Lib.hid hlt
      have HM := Lib.hid hrg
      clear hrg hrg1 hg1 hs1 hlt
      obtain ⟨f1, f2, f3, f4⟩ := HR1.out.facts hk
      obtain ⟨k, rfl⟩ := Int.eq_ofNat_of_zero_le f1
      obtain ⟨w2, hw2⟩ : ∃ w2, w1.alloc (.cells #[.int .i64 p, .string y] 93) = w2 := ⟨_, rfl⟩
      have hB2 : Below w1.heap.size w1 w2 := by rw [← hw2]; exact (Below.refl _ w1).alloc (Nat.le_refl _) _
      have q0 : w2.heap[w1.heap.size]? = some (.cells #[.int .i64 p, .string y] 93 (0, 0)) := by rw [← hw2]; exact heap_alloc_new w1 _
      have p0 : w2.cell? ⟨w1.heap.size, 0, none⟩ = some (.int .i64 p) := by simp [World.cell?, q0]
      have p1 : w2.cell? ⟨w1.heap.size, 1, none⟩ = some (.string y) := by simp [World.cell?, q0]
      have HR2 := Lib.hid (HR1.out.below hB2)
      have C : ∀ W, W = w2 → Calls Try.prog 74 #[.int .i64 p] W fun e w' => e = .returned (.bool (allP p)) ∧ W = w' := fun W e => by subst e; exact yes_any p _
      have HM1 := Lib.hid (show w.heap.size ≤ w1.heap.size from HR1.out.stir.size)
      clear HR1 q0 hB2 hbl HR
      cases hfp : allP p with
      | false =>
        rw [hfp] at C
        have HX := Lib.hid (HR2.out.skip hk hfp)
        have hm2 := HX.out.rng.left_eq
        have hm0 := HM.out.left_eq
        have HL := Lib.hid (show w2.rangeLeft m w.heap.size < wr.rangeLeft m w.heap.size by rw [hm2, hm0]; exact HL1.out)
        clear hm2 hm0 hfp
        go_wp2_with fail
        refine (C _ rfl).mono ?_
        rintro e w3 ⟨rfl, rfl⟩
        go_wp2
        go_roundw
        case rel => exact ⟨_, _, HX.out⟩
        case measure => exact HL.out
      | true =>
        rw [hfp] at C
        obtain ⟨cu, hrow⟩ := HR2.out.row
        have hX := HR2.out.copy HH.out hk hfp hrow
        rw [Int.toNat_natCast, f3] at hX
        have hinfo : (Try.prog.info? 5).map (·.size) = some 1 := by kernel_rfl
        have hlf : 64 * s.stay.length ≤ cu.size := by rw [hrow.size]; exact HH.out.cap_le hk
        have hlen := length_flat (part_size (f := allP) (l := s.loose) (left := left) (st := s.stay) hk.sz (fun q hq => (hk.key q hq).2.2))
        rw [length_part] at hlen
        obtain ⟨f0, hf0, hfr⟩ := hrow.at_
        have hcp := fun ty => run_copy_free (P := Try.prog) w2.drew 43 9 ty 5 g (64 * k) 64 (cap - 64 * k) y cu 5 f0 _ Try.underlying43 hinfo hf0 hfr (by omega) (by omega) (by rw [hlen]; omega)
        rw [f3] at hcp
        obtain ⟨Y, hY⟩ : ∃ Y, (cu.toList.take (64 * k) ++ Lib.byteCells y.data.toList ++ cu.toList.drop (64 * k + 64)).toArray = Y := ⟨_, rfl⟩
        rw [hY] at hcp hX
        have S := fun W (e : W.heap = w2.heap) => sector_obj (w := W) (by rw [e]; exact HR2.out.obj) hk (HH.out.cap_le hk) HH.out.row.max k (by omega)
        have hgl := HH.out.lt (.inr (.inl rfl))
        have hwl := HR2.out.stir.size
        have p2 : (w2.drew.setRow g Y).cell? ⟨w1.heap.size, 1, none⟩ = some (.string y) := by
          rw [World.cell?_of_block (w := w2) (setRow_other w2.drew g w1.heap.size Y (by have := HM1.out; omega))]
          exact p1
        have hX2 : Round b g cap m B a s D allP w (w2.drew.setRow g Y) w.heap.size (fun z => left z && !z.sameKey (lit (k : Int))) cnt1 := ⟨hX.rng, hX.obj, (by obtain ⟨c2, r⟩ := hX.row; exact ⟨c2, r.at_, r.size, r.max, r.le, r.is⟩), ⟨hX.stir.os, hX.stir.tape, hX.stir.output, hX.stir.size, hX.stir.block⟩, hX.new⟩
        have HX := Lib.hid hX2
        clear hX hX2 hgl hwl hY hrow hlf hfp hlen hf0 hfr
        go_wp2_with fail
        refine (C _ rfl).mono ?_
        rintro e w3 ⟨rfl, rfl⟩
        go_wp2_with fail
        go_region_held3 (fun w' => w'.cell? ⟨w1.heap.size, 1, none⟩ = some (.string y)) (first | exact p1 | exact p2) (first | (go_at_call 61; refine (S w2.drew rfl).mono ?_; rintro e w3 ⟨rfl, rfl⟩))
        all_goals (
          have hm2 := HX.out.rng.left_eq
          have hm0 := HM.out.left_eq
          have HL := Lib.hid (show (w2.drew.setRow g Y).rangeLeft m w.heap.size < wr.rangeLeft m w.heap.size by rw [hm2, hm0]; exact HL1.out)
          clear hm2 hm0 p1 p2 hcp
          go_wp2
          go_roundw
          case rel => exact ⟨_, _, HX.out⟩
          case measure => exact HL.out)
end
end Go.Proofs.Ytmbknpipefbelaa
