/-
  Whatever is read of any bytes, within any limits, in any order, each answer is the document's own answer's: for every text and every list of reads (of which the first two hundred are made).
  Conditions: those of its row (the variable errors.errorType lies as the program's text lays it: the card ties it).
-/
import Derived.Test.YtmcmhmcihbhmhaaDoorWirO
import Derived.Test.YtmcmhmcihbhmhaaDoorWirX
import Derived.Test.YtmcmhmcihbhmhaaDoorWirY
import Derived.Test.YtmcmhmcihbhmhaaDoorWirS
namespace Go.Proofs.YtmcmhmcihbhmhaaDoor.reads
open Go.ChangeShapes Go.WideShapes Go.ChangeAt Go.RowKit Go

theorem manyR_len : ∀ (k : Nat) (r : Rd) (m : Int) (acc : List Nat), (manyR k r m acc).1.length ≤ acc.length + k
  | 0, r, m, acc => Nat.le_refl _
  | k + 1, r, m, acc => by
    rw [manyR]
    split
    · have := manyR_len k (numR r m).2 m (acc ++ [(numR r m).1])
      rw [List.length_append] at this
      simp at this; omega
    · simp
theorem numsR_len (r : Rd) (k m : Int) : (numsR r k m).1.length ≤ 65536 := by
  have h1 := manyR_len (numR r (low k)).1 (numR r (low k)).2 m []
  have h2 := numR_low r k
  simp at h1
  exact Nat.le_trans h1 h2

def opObj (K M T : Int) : Obj := .cells #[.int .i64 K, .int .i64 M, .int .i64 T] 37 (0, 0)
theorem opObj.c1 {w : World} {b : Nat} {K M T : Int} (h : w.heap[b]? = some (opObj K M T)) : w.cell? ⟨b, 1, none⟩ = some (.int .i64 M) := by simp [World.cell?, h, opObj]
theorem opObj.c2 {w : World} {b : Nat} {K M T : Int} (h : w.heap[b]? = some (opObj K M T)) : w.cell? ⟨b, 2, none⟩ = some (.int .i64 T) := by simp [World.cell?, h, opObj]

set_option maxRecDepth 100000 in
set_option maxHeartbeats 8000000 in
theorem walk (s : ByteArray) (v : Value) (script : List (Int × Int × Int)) (w : World) (hs : s.size ≤ 140737488351232) (hO : OpsAt w v script) (_hln : script.length ≤ 9223372036854775807) (hg : GE w) :
    Calls Tryd.prog 4 #[.string s, v] w fun r w' => r = .returned (.bool true) ∧ Below w.heap.size w w' := by
  obtain ⟨a, cap, rfl, ha⟩ := hO
  have HA := Lib.hid ha
  have hs2 : s.size ≤ 281474976710656 := by omega
  have h0 := hg.lt
  clear ha
  go_enter Tryd.func4, Tryd.ntmps4
  go_wp2_with fail
  refine (rnew_any s _).mono ?_
  rintro e w1 ⟨br, rfl, bbr, H1, B1⟩
  have zbr : br ≠ 0 := by omega
  have HB1 := Lib.hid (B1.alloc B1.size (.cells #[.string s, .int .i64 0, .int .i64 0] 35))
  have HR1 := Lib.hid (show (w1.alloc (.cells #[.string s, .int .i64 0, .int .i64 0] 35)).heap[br]? = some (RO ⟨s.data.toList, 0⟩) by rw [Below.heap_alloc _ _ _ (lt_of_heap H1)]; exact H1)
  have HQ1 := Lib.hid (show (w1.alloc (.cells #[.string s, .int .i64 0, .int .i64 0] 35)).heap[w1.heap.size]? = some (QObj s 0 0) from heap_alloc_new _ _)
  have bbm : w.heap.size ≤ w1.heap.size := B1.size
  have zbm : w1.heap.size ≠ 0 := by omega
  have dbrbm : br ≠ w1.heap.size := by have := lt_of_heap H1; omega
  have dbmbr : w1.heap.size ≠ br := Ne.symm dbrbm
  have hbr1 := lt_of_heap H1
  obtain ⟨bm, hbm⟩ : ∃ bm, w1.heap.size = bm := ⟨_, rfl⟩
  rw [hbm] at HQ1 bbm zbm dbrbm dbmbr hbr1
  clear H1 B1
  go_wp2_with fail

  go_loopw [7] (fun i wr => ∃ (k : Nat) (rd : Rd) (p : Nat) (e : Int), k ≤ script.length ∧ k ≤ 200 ∧ i = .int .i64 k ∧ wr.heap[br]? = some (RO rd) ∧ wr.heap[bm]? = some (QObj s p e) ∧ Stands s p e rd ∧ rd.rest.length ≤ s.size ∧ Below w.heap.size w wr) (fun i _ => 200 - (intOf i).toNat)
  case atStart => exact ⟨0, ⟨s.data.toList, 0⟩, 0, 0, Nat.zero_le _, by omega, rfl, HR1.out, HQ1.out, ⟨rfl, fun _ => Nat.zero_le _, fun _ => rfl⟩, by simp, HB1.out⟩
  case round =>
    clear HB1 HR1 HQ1 hbm
    obtain ⟨k, rd, p, e, hk, hk200, rfl, hR, hQ, hst, hrl, hB⟩ := hrel
    by_cases hgo : k < script.length ∧ k < 200
    · obtain ⟨g1, g2⟩ := hgo
      obtain ⟨b, off, rfl, hb, hc⟩ := HA.out (by intro e; rw [e] at g1; exact absurd g1 (by simp))
      obtain ⟨hcK, hcM, hcT⟩ := hc k g1
      have i1 : (k : Int) < (script.length : Int) := by omega
      have i2 : (k : Int) < 200 := by omega
      have hcK' := (hB.cell (p := ⟨b, off + k * 3, none⟩) hb).trans hcK
      have hcM' := (hB.cell (p := ⟨b, off + k * 3 + 1, none⟩) hb).trans hcM
      have hcT' := (hB.cell (p := ⟨b, off + k * 3 + 2, none⟩) hb).trans hcT
      clear hc hcK hcM hcT
      generalize script[k].1 = Ki at *
      generalize script[k].2.1 = Mi at *
      generalize script[k].2.2 = Ti at *
      have B0 := hB.alloc hB.size (.cells #[.int .i64 Ki, .int .i64 Mi, .int .i64 Ti] 37)
      have hg0 := hg.below B0
      have Hbr0 : (wr.alloc (.cells #[.int .i64 Ki, .int .i64 Mi, .int .i64 Ti] 37)).heap[br]? = some (RO rd) := by rw [Below.heap_alloc _ _ _ (lt_of_heap hR)]; exact hR
      have Hbm0 : (wr.alloc (.cells #[.int .i64 Ki, .int .i64 Mi, .int .i64 Ti] 37)).heap[bm]? = some (QObj s p e) := by rw [Below.heap_alloc _ _ _ (lt_of_heap hQ)]; exact hQ
      have Hbo0 : (wr.alloc (.cells #[.int .i64 Ki, .int .i64 Mi, .int .i64 Ti] 37)).heap[wr.heap.size]? = some (opObj Ki Mi Ti) := heap_alloc_new _ _
      have dbobr : wr.heap.size ≠ br := by have := lt_of_heap hR; omega
      have dbrbo : br ≠ wr.heap.size := Ne.symm dbobr
      have dbobm : wr.heap.size ≠ bm := by have := lt_of_heap hQ; omega
      have dbmbo : bm ≠ wr.heap.size := Ne.symm dbobm
      have lbm := lt_of_heap Hbm0
      clear hR hQ hB
      obtain ⟨bo, hbo⟩ : ∃ bo, wr.heap.size = bo := ⟨_, rfl⟩
      rw [hbo] at Hbo0 dbobr dbrbo dbobm dbmbo
      have hrl2 : rd.rest.length ≤ 281474976710656 := Nat.le_trans hrl hs2
      by_cases hK0 : Ki = 0
      · subst hK0
        obtain ⟨n, r1, hp⟩ : ∃ n r1, numR rd Ti = (n, r1) := ⟨_, _, rfl⟩
        obtain ⟨e0, he0⟩ : ∃ e0, r1.err = e0 := ⟨_, rfl⟩
        have hr1 : r1.rest.length ≤ s.size := by have := numR_rest rd Ti; rw [hp] at this; exact Nat.le_trans this hrl
        have q1 := fun w => qnum_is (b := br) zbr hp he0 hrl2 w
        have m1 : ∀ w : World, w.heap[bm]? = some (QObj s p e) → Calls Tryd.prog 20 #[.pointer (some ⟨bm, 0, none⟩), .int .i64 Ti] w fun v w' => ∃ (p' : Nat) (e' : Int), v = .returned (.tuple #[.int .i64 n, .int .i64 e0]) ∧ Stands s p' e' r1 ∧ Moved bm (QObj s p' e') w w' := fun w H => by
          have := mnum_any bm s p e rd Ti hs2 hst w H
          rw [hp] at this; rw [← he0]; exact this
        clear hp he0 hst hrl2
        go_wp2_with fail
        refine (q1 _ hg0 Hbr0).mono ?_
        rintro e w1 ⟨rfl, K⟩
        have B1 := B0.trans (K.below bbr B0.size)
        have hg1 := hg0.moved K zbr
        have Hbr1 := K.here
        have Hbm1 := K.other Hbm0 dbmbr
        have Hbo1 := K.other Hbo0 dbobr
        clear B0 hg0 Hbr0 Hbm0 Hbo0 K
        have hct := opObj.c2 Hbo1
        go_wp2_with fail
        refine (m1 _ Hbm1).mono ?_
        rintro e w2 ⟨p2, e2, rfl, hst2, K⟩
        have B2 := B1.trans (K.below bbm B1.size)
        have hg2 := hg1.moved K zbm
        have Hbm2 := K.here
        have Hbr2 := K.other Hbr1 dbrbm
        have Hbo2 := K.other Hbo1 dbobm
        clear B1 hg1 Hbr1 Hbm1 Hbo1 K
        clear hct q1 m1
        go_wp2_with fail
        refine (qend_any br r1 _ hg2 Hbr2).mono ?_
        rintro e w3 ⟨rfl, K⟩
        have B3 := B2.trans (K.mono B2.size)
        have hg3 := hg2.below K
        have Hbr3 := keeps_of K Hbr2
        have Hbm3 := keeps_of K Hbm2
        have Hbo3 := keeps_of K Hbo2
        clear B2 hg2 Hbr2 Hbm2 Hbo2 K
        go_wp2_with fail
        refine (rend_any bm s p2 e2 r1 hst2 _ Hbm3).mono ?_
        rintro e w4 ⟨rfl, K⟩
        have B4 := B3.trans (K.mono B3.size)
        have hg4 := hg3.below K
        have Hbr4 := keeps_of K Hbr3
        have Hbm4 := keeps_of K Hbm3
        have Hbo4 := keeps_of K Hbo3
        clear B3 hg3 Hbr3 Hbm3 Hbo3 K
        have HR := Lib.hid Hbr4
        have HQ := Lib.hid Hbm4
        have HB := Lib.hid B4
        have HS := Lib.hid hst2
        clear Hbr4 Hbm4 Hbo4 B4 hg4 hst2
        go_wp2
        go_roundw
        case rel => exact ⟨k + 1, r1, p2, e2, by omega, by omega, by go_num, HR.out, HQ.out, HS.out, hr1, HB.out⟩
        case measure => simp [intOf]; omega
      by_cases hK1 : Ki = 1
      · subst hK1
        clear hK0
        obtain ⟨l, r1, hp⟩ : ∃ l r1, textR rd Ti = (l, r1) := ⟨_, _, rfl⟩
        obtain ⟨e0, he0⟩ : ∃ e0, r1.err = e0 := ⟨_, rfl⟩
        obtain ⟨L, hL⟩ : ∃ L, bs l = L := ⟨_, rfl⟩
        have hr1 : r1.rest.length ≤ s.size := by have := textR_rest rd Ti; rw [hp] at this; exact Nat.le_trans this hrl
        have q1 := fun w => qtext_is (b := br) zbr hp hL he0 hrl2 w
        have m1 : ∀ w : World, w.heap[bm]? = some (QObj s p e) → Calls Tryd.prog 22 #[.pointer (some ⟨bm, 0, none⟩), .int .i64 Ti] w fun v w' => ∃ (p' : Nat) (e' : Int), v = .returned (.tuple #[.string L, .int .i64 e0]) ∧ Stands s p' e' r1 ∧ Moved bm (QObj s p' e') w w' := fun w H => by
          have := mtext_any bm s p e rd Ti hs2 hst w H
          rw [hp] at this; rw [← he0, ← hL]; exact this
        clear hp he0 hst hrl2 hL
        go_wp2_with fail
        refine (q1 _ hg0 Hbr0).mono ?_
        rintro e w1 ⟨rfl, K⟩
        have B1 := B0.trans (K.below bbr B0.size)
        have hg1 := hg0.moved K zbr
        have Hbr1 := K.here
        have Hbm1 := K.other Hbm0 dbmbr
        have Hbo1 := K.other Hbo0 dbobr
        clear B0 hg0 Hbr0 Hbm0 Hbo0 K
        have hct := opObj.c2 Hbo1
        go_wp2_with fail
        refine (m1 _ Hbm1).mono ?_
        rintro e w2 ⟨p2, e2, rfl, hst2, K⟩
        have B2 := B1.trans (K.below bbm B1.size)
        have hg2 := hg1.moved K zbm
        have Hbm2 := K.here
        have Hbr2 := K.other Hbr1 dbrbm
        have Hbo2 := K.other Hbo1 dbobm
        clear B1 hg1 Hbr1 Hbm1 Hbo1 K
        clear hct q1 m1
        go_wp2_with fail
        refine (qend_any br r1 _ hg2 Hbr2).mono ?_
        rintro e w3 ⟨rfl, K⟩
        have B3 := B2.trans (K.mono B2.size)
        have hg3 := hg2.below K
        have Hbr3 := keeps_of K Hbr2
        have Hbm3 := keeps_of K Hbm2
        have Hbo3 := keeps_of K Hbo2
        clear B2 hg2 Hbr2 Hbm2 Hbo2 K
        go_wp2_with fail
        refine (rend_any bm s p2 e2 r1 hst2 _ Hbm3).mono ?_
        rintro e w4 ⟨rfl, K⟩
        have B4 := B3.trans (K.mono B3.size)
        have hg4 := hg3.below K
        have Hbr4 := keeps_of K Hbr3
        have Hbm4 := keeps_of K Hbm3
        have Hbo4 := keeps_of K Hbo3
        clear B3 hg3 Hbr3 Hbm3 Hbo3 K
        have HR := Lib.hid Hbr4
        have HQ := Lib.hid Hbm4
        have HB := Lib.hid B4
        have HS := Lib.hid hst2
        clear Hbr4 Hbm4 Hbo4 B4 hg4 hst2
        go_wp2
        go_roundw
        case rel => exact ⟨k + 1, r1, p2, e2, by omega, by omega, by go_num, HR.out, HQ.out, HS.out, hr1, HB.out⟩
        case measure => simp [intOf]; omega
      by_cases hK2 : Ki = 2
      · subst hK2
        clear hK0 hK1
        obtain ⟨ns, r1, hp⟩ : ∃ ns r1, numsR rd Mi Ti = (ns, r1) := ⟨_, _, rfl⟩
        obtain ⟨e0, he0⟩ : ∃ e0, r1.err = e0 := ⟨_, rfl⟩
        have hr1 : r1.rest.length ≤ s.size := by have := numsR_rest rd Mi Ti; rw [hp] at this; exact Nat.le_trans this hrl
        have hnl : (toInts ns).length ≤ 281474976710656 := by
          have := numsR_len rd Mi Ti
          rw [hp] at this
          simp only [toInts, List.length_map]
          exact Nat.le_trans this (by decide)
        have q1 : ∀ w : World, GE w → w.heap[br]? = some (RO rd) → Calls Tryd.prog 23 #[.pointer (some ⟨br, 0, none⟩), .int .i64 Mi, .int .i64 Ti] w fun v w' => (∃ l, v = .returned (.tuple #[l, .int .i64 e0]) ∧ IntsAt w' l (toInts ns) ∧ Fresh w.heap.size l) ∧ Moved br (RO r1) w w' := fun w hg H => by
          have := qnums_own br zbr rd Mi Ti hrl2 w hg H
          rw [hp] at this; rw [← he0]; exact this
        have m1 : ∀ w : World, w.heap[bm]? = some (QObj s p e) → Calls Tryd.prog 24 #[.pointer (some ⟨bm, 0, none⟩), .int .i64 Mi, .int .i64 Ti] w fun v w' => ∃ (p' : Nat) (e' : Int) (l : Value), v = .returned (.tuple #[l, .int .i64 e0]) ∧ IntsAt w' l (toInts ns) ∧ Stands s p' e' r1 ∧ Moved bm (QObj s p' e') w w' := fun w H => by
          have := mnums_any bm s p e rd Mi Ti hs2 hst w H
          rw [hp] at this; rw [← he0]; exact this
        clear hp he0 hst hrl2
        go_wp2_with fail
        refine (q1 _ hg0 Hbr0).mono ?_
        rintro e w1 ⟨⟨l, rfl, hl, hfr⟩, K⟩
        have B1 := B0.trans (K.below bbr B0.size)
        have hg1 := hg0.moved K zbr
        have Hbr1 := K.here
        have Hbm1 := K.other Hbm0 dbmbr
        have Hbo1 := K.other Hbo0 dbobr
        clear B0 hg0 Hbr0 Hbm0 Hbo0 K
        have hcm := opObj.c1 Hbo1
        have hct := opObj.c2 Hbo1
        go_wp2_with fail
        refine (m1 _ Hbm1).mono ?_
        rintro e w2 ⟨p2, e2, l2, rfl, hl2, hst2, K⟩
        have hl' := hl.moved hfr K lbm
        have B2 := B1.trans (K.below bbm B1.size)
        have hg2 := hg1.moved K zbm
        have Hbm2 := K.here
        have Hbr2 := K.other Hbr1 dbrbm
        have Hbo2 := K.other Hbo1 dbobm
        clear B1 hg1 Hbr1 Hbm1 Hbo1 K
        clear hcm hct q1 m1 hl hfr
        go_wp2_with fail
        refine (same_self l l2 _ hnl _ hl' hl2).mono ?_
        rintro e w3 ⟨rfl, K⟩
        have B3 := B2.trans (K.mono B2.size)
        have hg3 := hg2.below K
        have Hbr3 := keeps_of K Hbr2
        have Hbm3 := keeps_of K Hbm2
        have Hbo3 := keeps_of K Hbo2
        clear B2 hg2 Hbr2 Hbm2 Hbo2 K
        clear hl' hl2 hnl
        go_wp2_with fail
        refine (qend_any br r1 _ hg3 Hbr3).mono ?_
        rintro e w4 ⟨rfl, K⟩
        have B4 := B3.trans (K.mono B3.size)
        have hg4 := hg3.below K
        have Hbr4 := keeps_of K Hbr3
        have Hbm4 := keeps_of K Hbm3
        have Hbo4 := keeps_of K Hbo3
        clear B3 hg3 Hbr3 Hbm3 Hbo3 K
        go_wp2_with fail
        refine (rend_any bm s p2 e2 r1 hst2 _ Hbm4).mono ?_
        rintro e w5 ⟨rfl, K⟩
        have B5 := B4.trans (K.mono B4.size)
        have hg5 := hg4.below K
        have Hbr5 := keeps_of K Hbr4
        have Hbm5 := keeps_of K Hbm4
        have Hbo5 := keeps_of K Hbo4
        clear B4 hg4 Hbr4 Hbm4 Hbo4 K
        have HR := Lib.hid Hbr5
        have HQ := Lib.hid Hbm5
        have HB := Lib.hid B5
        have HS := Lib.hid hst2
        clear Hbr5 Hbm5 Hbo5 B5 hg5 hst2
        go_wp2
        go_roundw
        case rel => exact ⟨k + 1, r1, p2, e2, by omega, by omega, by go_num, HR.out, HQ.out, HS.out, hr1, HB.out⟩
        case measure => simp [intOf]; omega
      have k0 : ((Ki : Int) == 0) = false := beq_eq_false_iff_ne.2 hK0
      have k1 : ((Ki : Int) == 1) = false := beq_eq_false_iff_ne.2 hK1
      have k2 : ((Ki : Int) == 2) = false := beq_eq_false_iff_ne.2 hK2
      clear hK0 hK1 hK2 hrl2
      go_wp2_with fail
      refine (qend_any br rd _ hg0 Hbr0).mono ?_
      rintro e w1 ⟨rfl, K⟩
      have B1 := B0.trans (K.mono B0.size)
      have hg1 := hg0.below K
      have Hbr1 := keeps_of K Hbr0
      have Hbm1 := keeps_of K Hbm0
      have Hbo1 := keeps_of K Hbo0
      clear B0 hg0 Hbr0 Hbm0 Hbo0 K
      go_wp2_with fail
      refine (rend_any bm s p e rd hst _ Hbm1).mono ?_
      rintro e w2 ⟨rfl, K⟩
      have B2 := B1.trans (K.mono B1.size)
      have hg2 := hg1.below K
      have Hbr2 := keeps_of K Hbr1
      have Hbm2 := keeps_of K Hbm1
      have Hbo2 := keeps_of K Hbo1
      clear B1 hg1 Hbr1 Hbm1 Hbo1 K
      have HR := Lib.hid Hbr2
      have HQ := Lib.hid Hbm2
      have HB := Lib.hid B2
      have HS := Lib.hid hst
      clear Hbr2 Hbm2 Hbo2 B2 hg2 hst
      go_wp2
      go_roundw
      case rel => exact ⟨k + 1, rd, p, e, by omega, by omega, by go_num, HR.out, HQ.out, HS.out, hrl, HB.out⟩
      case measure => simp [intOf]; omega
    · have hgB := hg.below hB
      have hcut : (¬ (k : Int) < (script.length : Int)) ∨ ((k : Int) < (script.length : Int) ∧ ¬ (k : Int) < 200) := by omega
      clear hgo hR hQ hst hrl
      rcases hcut with c1 | ⟨c1, c2⟩
      all_goals
        go_wp2_with fail
        refine (fixed_any _ hgB).mono ?_
        rintro e w3 ⟨rfl, K⟩
        go_wp2_with fail
        go_ret
        exact ⟨rfl, hB.trans (K.mono hB.size)⟩

set_option maxRecDepth 100000 in
/-- WHAT THE WALK GIVES, for every argument that can be read. -/
theorem contract (H : Type) (enc : TypeId × Value → H) (W : World) (base : Nat) (args : Array Value) (ds gs : List (DataW H)) (before : List MemPlace)
    (hval : ∀ (j : Nat) t v, Tryd.f4.params[j]? = some t → args[j]? = some v → Value.okWide Tryd.prog W .any base t v)
    (hW : DataW.Whole enc Tryd.prog Tryd.f4.params.toList Rows.wireReadsSpec.vars false W args.toList ds gs before)
    (hreach : (DataW.weightsEach Tryd.prog (Tryd.f4.params.toList) ds).all (· ≤ reachBytes) = true) (hg : GE W) :
    Calls Tryd.prog 4 args W fun e W' => ∃ v, e = .returned v ∧ Rows.wireReadsSpec.post enc Tryd.prog Tryd.f4 false true false false W args v W' := by
  have hW' := hW
  obtain ⟨p, q, hA0, hV, rfl, hfz, hnd⟩ := hW
  have hA : DataW.TrodAll enc Tryd.prog W 0 (fun _ => true) true Tryd.f4.params.toList args.toList ds p := hA0
  rw [Tryd.params4] at hA hval hreach
  obtain ⟨v0, v1, d0, d1, p0, p1, rfl, rfl, rfl, h0, h1⟩ := trodAll_two hA
  obtain ⟨rfl, rfl⟩ := trodVars_none hV
  obtain ⟨s0, rfl, rfl, rfl, ws0⟩ := Go.ChangeMaps.open_string Tryd.underlying9 (hval 0 9 v0 rfl rfl) h0
  have r0 := reach_size (sized_string hreach (j := 0) rfl rfl)
  have lt1 : ∀ x ∈ p1, x.block < W.heap.size := fun x hx => hW'.lt x (by simp [hx])
  obtain ⟨l1, k1, r1⟩ := ops_open (hval 1 30 v1 rfl rfl) h1 lt1
  clear hA0 hval
  simp only [List.append_nil] at hW'
  refine (walk s0 v1 l1 W r0 k1 r1 hg).mono fun e W' ⟨he, hB⟩ => ?_
  subst he
  exact ⟨_, rfl, post_of_below (pa := [] ++ (p1)) (pv := []) hW' (fun _ _ _ => trodAll_mk1 (shut_bool Tryd.underlying4 _)) (fun sp hsp => trodAll_mk2 (Go.ChangeMaps.shut_string Tryd.underlying9 ws0) (WideElems.Trod_stays laidOut (by kernel_rfl) (of_decide_eq_true (by kernel_rfl)) h1 (fun x hx => hB.same (lt1 x hx)) (fun x hx => hsp x (by simp [hx])))) (fun _ _ => rfl) (by simp) hB (ok_one (by kernel_rfl) rfl (okWide_bool_mk Tryd.underlying4 _))⟩

theorem reads (os : Os) {H : Type} (enc : TypeId × Value → H) : ∃ places, DataW.whole enc Tryd.prog ((laidWorld os).forCall (fun _ _ => 0) ⟨#[], #[.string ⟨#[]⟩, .slice none 0 0], []⟩).memory Tryd.f4.params.toList Rows.wireReadsSpec.vars false (#[.string ⟨#[]⟩, .slice none 0 0] : Array Value).toList 8 = some ([.lit (.string []), .nil], [], places) :=
  ⟨[], by kernel_rfl⟩

set_option maxRecDepth 100000 in
theorem lifted (os : Os) (started : os.Started) (H : Type) (enc : TypeId × Value → H) (F : Stop.Interp) :
    ReturnsInHanded {} Tryd.checked os 4 .any ((OpenSpec.ofChange Rows.wireReadsSpec).preRow enc Tryd.prog Tryd.f4 Rows.wireReadsRow.domain false Rows.wireReadsRow.laid) (((OpenSpec.ofChange Rows.wireReadsSpec).at F).post enc Tryd.prog Tryd.f4 false true false false) := by
  obtain ⟨places, hx⟩ := reads os enc
  refine returnsInHanded_of_row (C := Tryd.checked) (s := OpenSpec.ofChange Rows.wireReadsSpec) own started (by kernel_rfl) Tryd.func4
    (witness_row_at (enc := enc) (C := Tryd.checked) false (laidWorld os) #[.string ⟨#[]⟩, .slice none 0 0] rfl (by kernel_rfl) (by kernel_rfl) (by kernel_rfl)
      (OpenSpec.preRow_of_cond 8 hx (by kernel_rfl) (fun k hk => by cases hk) (by kernel_rfl) (laid_met os _))) ?_
  intro W base args ds gs before hval hW _ hcond hreach hL _ _
  obtain ⟨p, q, hA0, hV, hpq, hfz, hnd⟩ := id hW
  obtain ⟨rfl, _⟩ := trodVars_none hV
  rw [List.append_nil] at hreach
  exact contract H enc W base args ds [] before hval hW hreach (handle_of_laid hL)

theorem said : Rows.WireReadsSaid :=
  OpenClaim.holds_of_cond 4 Tryd.f4 rfl rfl rfl rfl rfl rfl rfl ⟨rfl, rfl, rfl, rfl, rfl⟩ rfl rfl rfl rfl rfl (by kernel_rfl) Tryd.func4 (by kernel_rfl)
    (of_decide_eq_true (by kernel_rfl)) (by unfold Func.isWrapper; first | (rw [if_pos (by decide +kernel)]; kernel_rfl) | (rw [if_neg (by decide +kernel)]; exact ⟨rfl, rfl⟩))
    (fun os started H enc _ F => by rw [OpenClaim.pre_eq_preRow]; exact lifted os started H enc F)

theorem plain (f : FuncId) (fn : Func) (hf : Tryd.pinned.checked.prog.funcNamed "stillage/stillagelaw03.WireReads" = some f) (hfn : Tryd.pinned.checked.prog.funcs[f]? = some fn) :
    true = Tryd.pinned.checked.prog.looks [] ∧ ∀ (j : Nat) t, fn.params[j]? = some t → Tryd.pinned.checked.prog.wantsStandIn t = false := by
  obtain rfl : f = 4 := Option.some.inj ((show Tryd.prog.funcNamed "stillage/stillagelaw03.WireReads" = some 4 by kernel_rfl).symm.trans hf) |>.symm
  obtain rfl : fn = Tryd.f4 := (Option.some.inj (Tryd.func4.symm.trans hfn)).symm
  refine ⟨by kernel_rfl, fun j t ht => ?_⟩
  rw [Tryd.params4] at ht
  have hm : t ∈ [9, 30] := by simpa using Array.mem_of_getElem? ht
  have hall : ([9, 30].all fun u => !Tryd.prog.wantsStandIn u) = true := by kernel_rfl
  exact (show Tryd.prog.wantsStandIn t = false by simpa using List.all_eq_true.1 hall t hm)

/-- THE CARD -/
theorem card : Rows.WireReadsCardSaid :=
  Claim7.holds_tied_plain_at .later [] _ _ _ _ said (fun _ h => by cases h) (by kernel_rfl) (fun _ h => by cases h) wireReads_row_tie rfl ⟨rfl, rfl⟩ (by kernel_rfl) rfl plain (by kernel_rfl)

end Go.Proofs.YtmcmhmcihbhmhaaDoor.reads
