/-
  DskE / DskN / DskO / DskP / DskT / DskF / DskQ / DskV / DskR.
-/
import Derived.Test.YtknfakaklmpboaaGreatDoorMB
import Derived.Shelf.SlMaps.Clone
import Derived.Lib.ConvBytes
import Derived.Lib.SliceRun
import Derived.OwnWalk
import Derived.LoopNIn
import Derived.Test.YtknfakaklmpboaaGreatDoorMA
import Derived.Laws.OwnMore
namespace Go.Proofs.YtknfakaklmpboaaGreatDoor
open Go.RowKit Go Go.Maps SM

section
variable {b g cap m : Nat} {B : ByteArray} {a : Int} {s : DS} {cur : Array Value} {D : DataW Unit} {w w' : World}

/-! ### Arm -/
set_option maxRecDepth 100000 in
theorem arm_any (h : DiskAt b g m s w) (n : Int) (hn : I64 n) {keep : ByteArray} (hkp : keep.size ≤ 140737488355328) :
    Calls Tryz.prog 11 #[.pointer (some ⟨b, 0, none⟩), .int .i64 n, .string keep] w fun e w' => e = .returned (.int .i64 (s.armE n)) ∧ DiskAt b g m (s.setArm n keep) w' ∧ Stir (Foot b g m) w w' := by
  have hok' := h.1.setArm hn.2 hkp
  obtain ⟨hk, cap, B, cur, D, h⟩ := h
  have c6 := DObj.c6 h.obj
  have HH := Lib.hid h
  have C := disarm_at h
  cases hd : s.dead with
  | true =>
    rw [hd] at c6
    rw [show s.armE n = 2 by simp [DS.armE, hd], show s.setArm n keep = s by simp [DS.setArm, hd]]
    clear h hd
    go_enter Tryz.func11, Tryz.ntmps11
    go_wp2
    go_ret
    exact ⟨rfl, ⟨hk, _, _, _, _, HH.out⟩, Stir.refl _ _⟩
  | false =>
    rw [hd] at c6
    by_cases h0 : n < 0
    · rw [show s.armE n = 1 by simp [DS.armE, hd, h0], show s.setArm n keep = s by simp [DS.setArm, h0]]
      clear h hd
      go_enter Tryz.func11, Tryz.ntmps11
      go_wp2
      go_ret
      exact ⟨rfl, ⟨hk, _, _, _, _, HH.out⟩, Stir.refl _ _⟩
    · rw [show s.armE n = 0 by simp [DS.armE, hd, h0]]
      by_cases h1 : n = 0
      · subst h1
        have hS : s.setArm 0 keep = s.calm := by simp [DS.setArm, hd, DS.calm]
        rw [hS] at hok' ⊢
        clear h hd h0 hS
        go_enter Tryz.func11, Tryz.ntmps11
        go_wp2_with fail
        refine C.mono ?_
        rintro e w1 ⟨rfl, h1, s1⟩
        have H1 := Lib.hid h1
        have S1 := Lib.hid (s1.weaken (G := Foot b g m) (fun k e => .inl e))
        clear h1 s1
        go_wp2
        go_ret
        exact ⟨rfl, ⟨hok', _, _, _, _, H1.out⟩, S1.out⟩
      · have hS : s.setArm n keep = { s with armed := n.toNat, keep := keep } := by simp [DS.setArm, hd, h0, h1]
        rw [hS] at hok' ⊢
        have hp : 0 < n := by omega
        have hz : n.toNat ≠ 0 := by omega
        clear h hd hS
        go_enter Tryz.func11, Tryz.ntmps11
        go_wp2_with fail
        refine C.mono ?_
        rintro e w1 ⟨rfl, h1, s1⟩
        have X : ∀ z : Int, z = (s.made + n.toNat + 9223372036854775808 : Int) % 18446744073709551616 - 9223372036854775808 →
            DiskAt b g m { s with armed := n.toNat, keep := keep } ((w1.setCell ⟨b, 4, none⟩ (.int .i64 z)).setCell ⟨b, 5, none⟩ (.string keep)) ∧ Stir (Foot b g m) w ((w1.setCell ⟨b, 4, none⟩ (.int .i64 z)).setCell ⟨b, 5, none⟩ (.string keep)) := by
          intro z hz'
          have h2 : DAt b g cap m B z s.calm cur D (w1.setCell ⟨b, 4, none⟩ (.int .i64 z)) := DAt.cell (s' := s.calm) (a' := z) (B' := B) h1 4 _ rfl rfl h1.size h1.bads (by rw [heap_set h1.obj]; simp [DObj])
          have h3 : DAt b g cap m B z { s with armed := n.toNat, keep := keep } cur D ((w1.setCell ⟨b, 4, none⟩ (.int .i64 z)).setCell ⟨b, 5, none⟩ (.string keep)) :=
            DAt.cell (s' := { s with armed := n.toNat, keep := keep }) (a' := z) (B' := B) h2 5 _ rfl rfl h2.size h2.bads (by rw [heap_set h2.obj]; simp [DObj, DS.calm])
          have ez : DS.armZ { s with armed := n.toNat, keep := keep } = z := by rw [hz']; simp only [DS.armZ, hz, if_false]
          exact ⟨⟨hok', cap, B, cur, D, by rw [ez]; exact h3⟩, ((s1.weaken (G := Foot b g m) (fun k e => .inl e)).set (.inl (.inl rfl)) _).set (.inl (.inl rfl)) _⟩
        have HX := Lib.hid X
        have c3 : w1.cell? ⟨b, 3, none⟩ = some (.int .i64 s.made) := by have := DObj.c3 h1.obj; exact this
        have c4 := DObj.c4 h1.obj
        have c5 := DObj.c5 h1.obj
        have f4 := DObj.fr h1.obj 4
        have f5 := DObj.fr h1.obj 5
        clear h1 s1 X hz hok' C
        go_wp2
        go_ret
        exact ⟨rfl, HX.out _ (by unfold wrap64; omega)⟩
end
end Go.Proofs.YtknfakaklmpboaaGreatDoor

namespace Go.Proofs.YtknfakaklmpboaaGreatDoor
open Go.RowKit Go Go.Maps SM

section
variable {b g cap m : Nat} {B : ByteArray} {a : Int} {s : DS} {cur : Array Value} {D : DataW Unit} {w w' : World}

theorem over_any (g N cap : Nat) (w : World) :
    Calls Tryz.prog 76 #[.slice (some ⟨g, 0, none⟩) N cap] w fun e w' => e = .returned (.pointer (some ⟨w.heap.size + 1, 0, none⟩)) ∧ (w.alloc (.map #[] 0)).alloc (.cells #[.slice (some ⟨g, 0, none⟩) N cap, .map (some w.heap.size), .string ⟨#[]⟩, .int .i64 0, .int .i64 0, .string ⟨#[]⟩, .bool false] 82) = w' := by
  have hmm := @run_makeMap Tryz.prog
  go_enter Tryz.func76, Tryz.ntmps76
  go_wp2
  go_ret
  exact ⟨rfl, rfl⟩

/-! ### a copy of a row, of a map -/
set_option maxRecDepth 100000 in
set_option maxHeartbeats 1000000 in
theorem cloneRow {L : List UInt8} (h : RowIs g cap L w cur) (hL : L.length ≤ 1048576) :
    Calls Tryz.prog 72 #[.slice (some ⟨g, 0, none⟩) L.length cap] w fun e w' => ∃ g' cap' cur', e = .returned (.slice (some ⟨g', 0, none⟩) L.length cap') ∧ w.heap.size ≤ g' ∧ RowIs g' cap' L w' cur' ∧ Below w.heap.size w w' := by
  obtain ⟨i0, hi, hz0, hz1, hz2⟩ := info_parts info5e
  have q22 : ∀ (w : World) (a : Option Addr) (n c n' c' : Nat), (binOp .eql 79 (.slice a n c) (.slice none n' c')).run Tryz.prog w = .ok (.bool a.isNone) w := fun w a n c n' c' => Lib.run_eql_slice_nil w _ _ a n c n' c' Tryz.underlying79
  have HA := Lib.hid h
  have hg : g < w.heap.size := by
    obtain ⟨f, h1, _⟩ := h.at_
    exact lt_of_heap h1
  clear h
  go_enter Tryz.func72, Tryz.ntmps72
  go_wp2_with (at_builtin; refine wpList_append_own _ rfl _ _ 79 rfl w.heap.size 5 i0 (.int .u8 0) 1 1 Tryz.underlying79 hi hz0 hz1 hz2 rfl (by decide) _ _ _ rfl (World.ownsRow_made w #[] 0 (Nat.le_refl _) (Nat.zero_le _) rfl) ⟨g, 0, none⟩ L.length cap (Lib.byteCells L) rfl ?qc1 ?qc2 ?qc3 ?qc4 ?qc5 ?qc6 ?_)
  case qc1 => simp [Lib.byteCells_length]
  case qc2 =>
    intro j u hj
    have hjn : j < L.length := by have := (List.getElem?_eq_some_iff.1 hj).1; rwa [Lib.byteCells_length] at this
    rw [Addr.add_lit, Nat.zero_add]
    refine Lib.cell?_alloc_some _ ?_
    rw [HA.out.cell hjn, ← hj]
    simp [Lib.byteCells, hjn]
  case qc3 => exact Lib.byteCells_one L
  case qc4 => unfold maxLen; omega
  case qc5 => omega
  case qc6 => simp
  intro v' w1 hown hgrow hnil
  go_wp2
  go_ret
  have hB : Below w.heap.size w w1 := ((Below.refl _ w).alloc (Nat.le_refl _) _).grown hgrow (by simp) (by intro k hk; simp [Value.ownBlock] at hk; omega)
  obtain ⟨g', cap', cur', rfl, hge, hr⟩ := RowIs.of_owns hown hnil
  exact ⟨g', cap', cur', rfl, hge, hr, hB⟩

set_option maxRecDepth 100000 in
set_option maxHeartbeats 1000000 in
theorem cloneMap {l : List (Int × ByteArray)} (h : LooseAt m l w D) :
    Calls Tryz.prog 73 #[.map (some m)] w fun e w' => e = .returned (.map (some w.heap.size)) ∧ LooseAt w.heap.size l w' D ∧ Below w.heap.size w w' := by
  have hq := fun w => run_eql_map_nil_sl (P := Tryz.prog) w 80 _ _ (some m) Tryz.underlying80
  obtain ⟨⟨es, clock, hb, F, hs, hD⟩, h2, h3⟩ := h
  have hB : Below w.heap.size w (w.alloc (.map es clock)) := (Below.refl _ w).alloc (Nat.le_refl _) _
  have X := Lib.hid (show LooseAt w.heap.size l (w.alloc (.map es clock)) D from ⟨⟨es, clock, (MapKept.heap_alloc w _).1, F, hs, hD⟩, h2, h3⟩)
  have HB := Lib.hid hB
  clear F hs hD h2 h3 hB
  go_enter Tryz.func73, Tryz.ntmps73
  go_wp2
  rw [run_callFunc_extern Tryz.func112 (by kernel_rfl) (by kernel_rfl) (by kernel_rfl) (e := Extern.MapsClone.clone) (by kernel_rfl), run_maps_clone_sl w 80 hb]
  simp only [Result.andThen]
  rw [Oper.upon_value]
  go_wp2
  rw [run_typeAssert_map_sl _ 80 20 _ _ _ Tryz.underlying80]
  simp only [Result.andThen]
  rw [Oper.upon_value]
  go_wp2
  go_ret
  exact ⟨rfl, X.out, HB.out⟩
/-! ### New -/
def zero64 : ByteArray := ⟨(List.replicate 64 (0 : UInt8)).toArray⟩
theorem size_zero64 : zero64.size = 64 := by simp [zero64, ByteArray.size]
def blank (n : Nat) : List ByteArray := List.replicate n zero64
theorem blank_size (n : Nat) : ∀ b ∈ blank n, b.size = 64 := fun b hb => by rw [List.eq_of_mem_replicate hb]; exact size_zero64
theorem flat_blank : ∀ n : Nat, flat (blank n) = List.replicate (64 * n) (0 : UInt8)
  | 0 => rfl
  | n + 1 => by
    have h := flat_blank n
    show flat (zero64 :: blank n) = _
    rw [flat_cons, h, show 64 * (n + 1) = 64 + 64 * n by omega, ← List.replicate_append_replicate]
    simp [zero64]
theorem blank_ok {n : Nat} (h1 : 1 ≤ n) (h2 : n ≤ 16384) : (fresh (blank n)).Ok := fresh_ok (by simpa [blank] using h1) (by simpa [blank] using h2) (blank_size n)
theorem made_bytes (k : Nat) : (madeCells #[.int .u8 0] k).toList = Lib.byteCells (List.replicate k (0 : UInt8)) := by
  rw [toList_madeCells_one]; simp [Lib.byteCells]
theorem made_row (w : World) (k : Nat) (h : k ≤ 1048640) : RowIs w.heap.size k (List.replicate k (0 : UInt8)) (w.alloc (.cells (madeCells #[.int .u8 0] k) 5)) (madeCells #[.int .u8 0] k) :=
  ⟨⟨_, heap_alloc_new _ _, .inl rfl⟩, size_madeCells _ _, by unfold maxLen; omega, by simp, by rw [made_bytes, List.length_replicate, List.take_of_length_le (by rw [Lib.byteCells_length]; simp)]⟩

/-- what a new disk's blocks are -/
theorem disk_new {w1 : World} {st : List ByteArray} (hok : (fresh st).Ok) {g cap : Nat} {cur : Array Value} (hr : RowIs g cap (flat st) w1 cur) :
    DiskAt (w1.heap.size + 1) g w1.heap.size (fresh st) ((w1.alloc (.map #[] 0)).alloc (.cells #[.slice (some ⟨g, 0, none⟩) (64 * st.length) cap, .map (some w1.heap.size), .string ⟨#[]⟩, .int .i64 0, .int .i64 0, .string ⟨#[]⟩, .bool false] 82)) := by
  have hs : (w1.alloc (.map #[] 0)).heap.size = w1.heap.size + 1 := by simp
  refine ⟨hok, cap, ⟨#[]⟩, cur, .map [], ?_, ?_, ?_, Nat.zero_le _, fun k => ?_⟩
  · have := heap_alloc_new (w1.alloc (.map #[] 0)) (.cells #[.slice (some ⟨g, 0, none⟩) (64 * st.length) cap, .map (some w1.heap.size), .string ⟨#[]⟩, .int .i64 0, .int .i64 0, .string ⟨#[]⟩, .bool false] 82)
    rw [hs] at this
    rw [this]
    rfl
  · exact hr.stay (Stir.of_below (F := fun _ => False) (((Below.refl _ w1).alloc (Nat.le_refl _) _).alloc (by simp) _)) (fun h => h)
  · exact (looseAt_new w1).below ((Below.refl _ _).alloc (Nat.le_refl _) _)
  · simp [bitI, bit, gd, fresh]

set_option maxRecDepth 100000 in
theorem new_yes (n : Nat) (h1 : 1 ≤ n) (h2 : n ≤ 16384) (w : World) :
    Calls Tryz.prog 29 #[.int .i64 n] w fun e w' => ∃ b g m, e = .returned (.tuple #[.pointer (some ⟨b, 0, none⟩), .int .i64 0]) ∧ DiskAt b g m (fresh (blank n)) w' ∧ (w.heap.size ≤ b ∧ w.heap.size ≤ g ∧ w.heap.size ≤ m) ∧ Below w.heap.size w w' := by
  obtain ⟨i0, hi, hz0, hz1, hz2⟩ := info_parts info5e
  have hmk := run_makeSlice (P := Tryz.prog) (w := w) 79 5 i0 (.int .u8 0) Tryz.underlying79 hi hz0 .i64 .i64 ((64 * n : Nat) : Int) ((64 * n : Nat) : Int) (by omega) (by omega) (by rw [hz1]; omega) (by rw [hz2]; omega) (by omega)
  rw [hz1, Nat.mul_one, Int.toNat_natCast, show Value.cells (.int .u8 0) = #[.int .u8 0] from rfl] at hmk
  have hrow := made_row w (64 * n) (by omega)
  rw [← flat_blank] at hrow
  obtain ⟨M, hM⟩ : ∃ M, madeCells #[Value.int .u8 0] (64 * n) = M := ⟨_, rfl⟩
  rw [hM] at hmk hrow
  have hX := disk_new (blank_ok h1 h2) hrow
  rw [show (blank n).length = n by simp [blank]] at hX
  obtain ⟨w1, hw1⟩ : ∃ w1, w.alloc (.cells M 5) = w1 := ⟨_, rfl⟩
  have hs1 : w1.heap.size = w.heap.size + 1 := by rw [← hw1]; simp
  have hB1 : Below w.heap.size w w1 := by rw [← hw1]; exact (Below.refl _ w).alloc (Nat.le_refl _) _
  rw [hw1] at hX hmk
  have HX := Lib.hid hX
  have HS := Lib.hid hs1
  have HB := Lib.hid hB1
  have C := fun w => over_any w1.heap.size (64 * n) (64 * n) w
  have e64 : ((64 * n : Nat) : Int) = (n : Int) * 64 := by omega
  rw [e64] at hmk
  have C := fun gg w => over_any gg (64 * n) (64 * n) w
  clear hX hs1 hB1 hrow hM hi hz0 hz1 hz2 hw1 e64
  go_enter Tryz.func29, Tryz.ntmps29
  go_wp2_with fail
  refine (C _ _).mono ?_
  rintro e w2 ⟨rfl, rfl⟩
  go_wp2
  go_ret2
  exact ⟨_, _, _, rfl, HX.out, ⟨by have := HS.out; omega, Nat.le_refl _, by have := HS.out; omega⟩, (HB.out.alloc (by have := HS.out; omega) _).alloc (by have := HS.out; simp; omega) _⟩

theorem new_no (n : Int) (h : n < 1 ∨ 16384 < n) (w : World) :
    Calls Tryz.prog 29 #[.int .i64 n] w fun e w' => e = .returned (.tuple #[.pointer none, .int .i64 60]) ∧ w = w' := by
  by_cases h1 : n < 1
  · clear h
    go_enter Tryz.func29, Tryz.ntmps29
    go_wp2
    go_ret2
    exact ⟨rfl, rfl⟩
  · have h2 : 16384 < n := by omega
    clear h
    go_enter Tryz.func29, Tryz.ntmps29
    go_wp2
    go_ret2
    exact ⟨rfl, rfl⟩
end
end Go.Proofs.YtknfakaklmpboaaGreatDoor

namespace Go.Proofs.YtknfakaklmpboaaGreatDoor
open Go.RowKit Go Go.Maps SM

section
variable {b g cap m : Nat} {B : ByteArray} {a : Int} {s : DS} {cur : Array Value} {D : DataW Unit} {w w' : World}

theorem below_bytesWorld (w : World) (e : TypeId) (x : ByteArray) : Below w.heap.size w (Lib.bytesWorld w e x) ∧ (Lib.bytesWorld w e x).heap.size = w.heap.size + 1 := by
  have hs : (Lib.bytesWorld w e x).heap.size = w.heap.size + 1 := by simp [Lib.bytesWorld, World.freeze]
  refine ⟨⟨rfl, rfl, rfl, by omega, fun k hk => Lib.bytesWorld_at_old w e x k hk⟩, hs⟩

/-! ### Clone -/
theorem clone_end {c g' cap' m' : Nat} {cur' : Array Value} {w3 : World} (h0 : DAt b g cap m B a s cur D w) (hc : w3.heap[c]? = some (DObj g cap m B a s)) (hr : RowIs g' cap' (flat s.stay) w3 cur') (hl : LooseAt m' s.loose w3 D) (h1 : g' ≠ c) (h2 : m' ≠ c) :
    DAt c g' cap' m' B a s cur' D ((w3.setCell ⟨c, 0, none⟩ (.slice (some ⟨g', 0, none⟩) (64 * s.stay.length) cap')).setCell ⟨c, 1, none⟩ (.map (some m'))) := by
  refine ⟨?_, (hr.set h1 _).set h1 _, (hl.set h2 _).set h2 _, h0.size, h0.bads⟩
  rw [heap_set (heap_set hc _)]
  simp [DObj]
/-- the disk's cells while other blocks are made and turned -/
theorem cells_other {c : Nat} (h : w.heap[b]? = some (DObj g cap m B a s)) (hb : b ≠ c) : (∀ x, (w.setCell ⟨c, 0, none⟩ x).cell? ⟨b, 0, none⟩ = some (.slice (some ⟨g, 0, none⟩) (64 * s.stay.length) cap) ∧ (w.setCell ⟨c, 0, none⟩ x).cell? ⟨b, 1, none⟩ = some (.map (some m))) ∧
    (∀ x y, ((w.setCell ⟨c, 0, none⟩ x).setCell ⟨c, 1, none⟩ y).cell? ⟨b, 0, none⟩ = some (.slice (some ⟨g, 0, none⟩) (64 * s.stay.length) cap) ∧ ((w.setCell ⟨c, 0, none⟩ x).setCell ⟨c, 1, none⟩ y).cell? ⟨b, 1, none⟩ = some (.map (some m))) :=
  ⟨fun x => ⟨DObj.c0 (heap_set_other h hb x), DObj.c1 (heap_set_other h hb x)⟩, fun x y => ⟨DObj.c0 (heap_set_other (heap_set_other h hb x) hb y), DObj.c1 (heap_set_other (heap_set_other h hb x) hb y)⟩⟩
set_option maxRecDepth 100000 in
set_option maxHeartbeats 1000000 in
theorem clone_any' (h : DiskAt b g m s w) :
    Calls Tryz.prog 22 #[.pointer (some ⟨b, 0, none⟩)] w fun e w' => ∃ b' g' m', e = .returned (.pointer (some ⟨b', 0, none⟩)) ∧ DiskAt b' g' m' s w' ∧ (w.heap.size ≤ b' ∧ w.heap.size ≤ g' ∧ w.heap.size ≤ m') ∧ Below w.heap.size w w' := by
  obtain ⟨hk, cap, B, cur, D, h⟩ := h
  have c0 := DObj.c0 h.obj
  have c1 := DObj.c1 h.obj
  have c2 := DObj.c2 h.obj
  have c3 := DObj.c3 h.obj
  have c4 := DObj.c4 h.obj
  have c5 := DObj.c5 h.obj
  have c6 := DObj.c6 h.obj
  obtain ⟨w1, hw1⟩ : ∃ w1, w.alloc (DObj g cap m B s.armZ s) = w1 := ⟨_, rfl⟩
  have hB1 : Below w.heap.size w w1 := by rw [← hw1]; exact (Below.refl _ w).alloc (Nat.le_refl _) _
  have h1 : DAt b g cap m B s.armZ s cur D w1 := h.below hB1
  have hn : w1.heap[w.heap.size]? = some (DObj g cap m B s.armZ s) := by rw [← hw1]; exact heap_alloc_new w _
  unfold DObj at hw1
  have HH := Lib.hid h
  have H1 := Lib.hid h1
  have HN := Lib.hid hn
  have HB1 := Lib.hid hB1
  have hlen : (flat s.stay).length = 64 * s.stay.length := length_flat hk.sz
  have hle := hk.le
  have hbn : b ≠ w.heap.size := by have := lt_of_heap h.obj; omega
  have a0 : w1.drew.cell? ⟨b, 0, none⟩ = _ := DObj.c0 h1.obj
  have a1 : w1.drew.cell? ⟨b, 1, none⟩ = _ := DObj.c1 h1.obj
  have RR : ∀ W, Below w1.heap.size w1 W → Calls Tryz.prog 72 #[.slice (some ⟨g, 0, none⟩) (64 * s.stay.length) cap] W fun e w' => ∃ g' cap' cur', e = .returned (.slice (some ⟨g', 0, none⟩) (64 * s.stay.length) cap') ∧ W.heap.size ≤ g' ∧ RowIs g' cap' (flat s.stay) w' cur' ∧ Below W.heap.size W w' := by
    intro W hW
    have := cloneRow (H1.out.below hW).row (by rw [hlen]; omega)
    rw [hlen] at this
    exact this
  have MM : ∀ W, Below w1.heap.size w1 W → Calls Tryz.prog 73 #[.map (some m)] W fun e w' => e = .returned (.map (some W.heap.size)) ∧ LooseAt W.heap.size s.loose w' D ∧ Below W.heap.size W w' := fun W hW => cloneMap (H1.out.below hW).loose
  have hB1d : Below w1.heap.size w1 w1.drew := (Below.refl _ _).drew
  have HD := Lib.hid hB1d
  have HL := Lib.hid (show w.heap.size < w1.heap.size from lt_of_heap HN.out)
  clear h h1 hn hB1 hB1d hlen hle
  go_enter Tryz.func22, Tryz.ntmps22
  go_wp2_with fail
  go_region_held3 (fun w' => w'.cell? ⟨b, 0, none⟩ = some (.slice (some ⟨g, 0, none⟩) (64 * s.stay.length) cap) ∧ w'.cell? ⟨b, 1, none⟩ = some (.map (some m)))
    (first | exact ⟨a0, a1⟩ | exact ⟨b0, b1⟩ | exact ⟨d0, d1⟩ | exact e0 _ | exact e1 _ _)
    (first
      | (go_at_call 72; refine (RR _ HM.out).mono ?_; rintro e w3 ⟨g3, cap3, cur3, rfl, hg3, hr3, hB3⟩; have HB3 := Lib.hid (HM.out.trans (hB3.mono HM.out.size)); have HR3 := Lib.hid hr3; have HM3 := Lib.hid (HM2.out.below hB3); have HG3 := Lib.hid (Nat.le_trans HM.out.size hg3); have k1 := (H1.out.below HB3.out).obj; have d0 := DObj.c0 k1; have d1 := DObj.c1 k1; obtain ⟨e0, e1⟩ := cells_other k1 hbn; have k2 := keeps_of HB3.out HN.out; have f0 := DObj.fr k2 0; have f1 := DObj.fr k2 1; have q0 := DObj.c0 k2; have q1 := DObj.c1 k2; have HK := Lib.hid k2; clear k1 k2 hg3 hr3 hB3)
      | (go_at_call 72; refine (RR _ HD.out).mono ?_; rintro e w2 ⟨g3, cap3, cur3, rfl, hg3, hr3, hB3⟩; have HR := Lib.hid (HD.out.trans (hB3.mono HD.out.size)); have HR2 := Lib.hid hr3; have HG3 := Lib.hid (Nat.le_trans HD.out.size hg3); have k1 := (H1.out.below HR.out).obj; have b0 := DObj.c0 k1; have b1 := DObj.c1 k1; clear k1 hg3 hr3 hB3)
      | (go_at_call 73; refine (MM _ HR.out).mono ?_; rintro e w3 ⟨rfl, hm3, hB3⟩; have HB3 := Lib.hid (HR.out.trans (hB3.mono HR.out.size)); have HM3 := Lib.hid hm3; have HR3 := Lib.hid (HR2.out.stay (Stir.of_below (F := fun _ => False) hB3) (fun h => h)); have HG4 := Lib.hid HR.out.size; have k1 := (H1.out.below HB3.out).obj; have d0 := DObj.c0 k1; have d1 := DObj.c1 k1; obtain ⟨e0, e1⟩ := cells_other k1 hbn; have k2 := keeps_of HB3.out HN.out; have f0 := DObj.fr k2 0; have f1 := DObj.fr k2 1; have q0 := DObj.c0 k2; have q1 := DObj.c1 k2; have HK := Lib.hid k2; clear k1 k2 hm3 hB3)
      | (go_at_call 73; refine (MM _ HD.out).mono ?_; rintro e w2 ⟨rfl, hm3, hB3⟩; have HM := Lib.hid (HD.out.trans (hB3.mono HD.out.size)); have HM2 := Lib.hid hm3; have HG4 := Lib.hid HD.out.size; have k1 := (H1.out.below HM.out).obj; have b0 := DObj.c0 k1; have b1 := DObj.c1 k1; clear k1 hm3 hB3))
  all_goals (
    go_wp2_with fail
    go_ret
    refine ⟨_, _, _, rfl, ⟨hk, _, _, _, _, clone_end HH.out HK.out HR3.out HM3.out (by have := HG3.out; have := HL.out; omega) (by have := HG4.out; have := HL.out; omega)⟩, ⟨Nat.le_refl _, by have := HG3.out; have := HL.out; omega, by have := HG4.out; have := HL.out; omega⟩, ?_⟩
    exact (((Stir.of_below (F := fun k => k = w.heap.size) (HB1.out.trans (HB3.out.mono HB1.out.size))).set (.inl rfl) _).set (.inl rfl) _).below (fun k e => Nat.le_of_eq e.symm) (Nat.le_refl _))
end
end Go.Proofs.YtknfakaklmpboaaGreatDoor

namespace Go.Proofs.YtknfakaklmpboaaGreatDoor
open Go.RowKit Go Go.Maps SM

/-- the sectors of a text -/
def parts (x : ByteArray) (k : Nat) : List ByteArray := (List.range k).map fun j => x.extract (64 * j) (64 * j + 64)
theorem parts_len (x : ByteArray) (k : Nat) : (parts x k).length = k := by simp [parts]
theorem parts_succ (x : ByteArray) (k : Nat) : parts x (k + 1) = parts x k ++ [x.extract (64 * k) (64 * k + 64)] := by simp [parts, List.range_succ]
theorem parts_size {x : ByteArray} {k : Nat} (h : 64 * k ≤ x.size) : ∀ b ∈ parts x k, b.size = 64 := by
  intro b hb
  obtain ⟨j, hj, rfl⟩ := List.mem_map.1 hb
  have := List.mem_range.1 hj
  rw [ByteArray.size_extract]
  omega
theorem flat_parts (x : ByteArray) : ∀ k : Nat, flat (parts x k) = x.data.toList.take (64 * k)
  | 0 => by simp [parts, flat]
  | k + 1 => by
    rw [parts_succ, flat_append, flat_parts x k, flat_cons, flat_nil, List.append_nil, Lib.extract_data, show 64 * k + 64 - 64 * k = 64 by omega, show 64 * (k + 1) = 64 * k + 64 by omega, List.take_add]
theorem img_parts {x : ByteArray} {k : Nat} (h : x.size = 64 * k) : img (parts x k) = x := by
  apply ByteArray.ext
  apply Array.toList_inj.1
  rw [img_list, flat_parts, List.take_of_length_le (by rw [len_of]; omega)]
theorem parts_ok {x : ByteArray} {k : Nat} (h : x.size = 64 * k) (h1 : 1 ≤ k) (h2 : k ≤ 16384) : (fresh (parts x k)).Ok :=
  fresh_ok (by rw [parts_len]; exact h1) (by rw [parts_len]; exact h2) (parts_size (by omega))
theorem bytes_row (w : World) {x : ByteArray} {k : Nat} (h : x.size = 64 * k) (h2 : k ≤ 16384) : RowIs w.heap.size (grownCap w x.size 0 5) (flat (parts x k)) (Lib.bytesWorld w 5 x) (Lib.bytesCells w 5 x) := by
  have e : flat (parts x k) = x.data.toList := by rw [flat_parts, List.take_of_length_le (by rw [len_of]; omega)]
  have h3 := grownCap_ge w x.size 0 5
  have hs : (Lib.bytesCells w 5 x).size = grownCap w x.size 0 5 := by
    simp [Lib.bytesCells]
    have : x.data.size = x.size := rfl
    omega
  have hl : (flat (parts x k)).length = x.size := by rw [e, len_of]
  refine ⟨⟨_, Lib.bytesWorld_at_new w 5 x, .inr (by rw [hl, hs]; exact h3)⟩, hs, grownCap_le_maxLen _ _ _ _ (by unfold maxLen; omega), by rw [hl]; exact h3, ?_⟩
  rw [e, len_of]
  have : x.data.size = x.size := rfl
  simp [Lib.bytesCells, Lib.byteCells, this]

end Go.Proofs.YtknfakaklmpboaaGreatDoor

namespace Go.Proofs.YtknfakaklmpboaaGreatDoor
open Go.RowKit Go Go.Maps SM

/-- how many bytes -/
def secN (more : Int) : Nat := (64 + max (-64) (min more 136)).toNat
def sec (c : UInt8) (more : Int) : ByteArray := ⟨(List.replicate (secN more) c).toArray⟩
theorem size_sec (c : UInt8) (more : Int) : (sec c more).size = secN more := by simp [sec, ByteArray.size]
theorem secN_le (more : Int) : secN more ≤ 200 := by unfold secN; omega
theorem secN_zero : secN 0 = 64 := by decide

theorem row_step (c : UInt8) (N k : Nat) (h : k < N) : (List.replicate k c ++ List.replicate (N - k) (0 : UInt8)).set k c = List.replicate (k + 1) c ++ List.replicate (N - (k + 1)) 0 := by
  rw [List.set_append_right _ _ (by simp), List.length_replicate, Nat.sub_self, show N - k = (N - (k + 1)) + 1 by omega, List.replicate_succ, List.set_cons_zero, List.replicate_succ', List.append_assoc]
  rfl

end Go.Proofs.YtknfakaklmpboaaGreatDoor

namespace Go.Proofs.YtknfakaklmpboaaGreatDoor
open Go.RowKit Go Go.Maps SM

section
variable {b g m : Nat} {s : DS} {w w' : World}
theorem read_any (h : DiskAt b g m s w) (n : Int) (hn : I64 n) :
    Calls Tryz.prog 65 #[.pointer (some ⟨b, 0, none⟩), .int .i64 n] w fun e w' => e = .returned (.tuple #[.string (s.readS n), .int .i64 (s.readE n)]) ∧ Below w.heap.size w w' := by
  obtain ⟨hk, cap, B, cur, D, h⟩ := h
  exact read_at h hk n hn
theorem image_any (h : DiskAt b g m s w) :
    Calls Tryz.prog 25 #[.pointer (some ⟨b, 0, none⟩)] w fun e w' => e = .returned (.string (img s.stay)) ∧ w = w' := by
  obtain ⟨hk, cap, B, cur, D, h⟩ := h
  exact image_at h hk
theorem sectors_any (h : DiskAt b g m s w) :
    Calls Tryz.prog 101 #[.pointer (some ⟨b, 0, none⟩)] w fun e w' => e = .returned (.int .i64 s.stay.length) ∧ w = w' := by
  obtain ⟨hk, cap, B, cur, D, h⟩ := h
  exact sectors_at h hk
theorem steps_any (h : DiskAt b g m s w) :
    Calls Tryz.prog 27 #[.pointer (some ⟨b, 0, none⟩)] w fun e w' => e = .returned (.int .i64 s.made) ∧ w = w' := by
  obtain ⟨hk, cap, B, cur, D, h⟩ := h
  exact steps_at h
/-- a world's blocks from B on: the disk's, and what is new -/
def Over (B b g m : Nat) : Prop := B ≤ b ∧ B ≤ g ∧ B ≤ m
theorem Over.foot {B : Nat} (h : Over B b g m) : ∀ k, Foot b g m k → B ≤ k := by
  rintro k (rfl | rfl | rfl)
  · exact h.1
  · exact h.2.1
  · exact h.2.2
theorem step_below {B : Nat} {w0 : World} (h0 : Below B w0 w) (hs : Stir (Foot b g m) w w') (hl : Over B b g m) (hB : B ≤ w.heap.size) : Below B w0 w' := h0.trans (hs.below hl.foot hB)
end

/-! ### the calls whose answers are fixed -/
def fX : ByteArray := sec 120 0
def fY : ByteArray := sec 121 0
def fS0 : DS := fresh (blank 2)
def fS1 : DS := fS0.write 1 fX
def fS2 : DS := fS1.write 0 fY
def fS3 : DS := fS2.crash ⟨#[1]⟩
def fS4 : DS := fS3.revive
def fS5 : DS := fS4.setBad 1 true
theorem f1 : fS0.writeE 1 fX = 0 := by kernel_rfl
theorem f2 : fS1.writeE 0 fY = 0 := by kernel_rfl
theorem f3 : fS2.readS 1 = fX := by kernel_rfl
theorem f4 : fS2.readE 1 = 0 := by kernel_rfl
theorem f5 : img fS2.stay = sec 0 64 := by kernel_rfl
theorem f6 : fS2.crashE = 0 := by kernel_rfl
theorem f7 : fS3.readE 0 = 2 := by kernel_rfl
theorem f8 : img fS4.stay = sec 0 0 ++ fX := by kernel_rfl
theorem f9 : fS4.may 1 = 0 := by kernel_rfl
theorem f10 : fS5.readE 1 = 3 := by kernel_rfl
theorem f11 : fS5.made = 2 := by kernel_rfl
theorem f12 : fS5.writeE 0 ⟨#[]⟩ = 1 := by kernel_rfl
theorem f13 : fS0.made = 0 := by kernel_rfl
theorem f14 : fS1.made = 1 := by kernel_rfl
theorem f15 : fS2.made = 2 := by kernel_rfl

end Go.Proofs.YtknfakaklmpboaaGreatDoor

namespace Go.Proofs.YtknfakaklmpboaaGreatDoor
open Go.ChangeShapes Go.WideShapes Go.ChangeAt Go.RowKit Go
theorem cells3 : Tryz.prog.cellsOf 3 = 1 := by kernel_rfl
theorem cells9 : Tryz.prog.cellsOf 9 = 1 := by kernel_rfl
theorem cellsB : Tryz.prog.cellsOf 4 = 1 := by kernel_rfl
theorem cellsY : Tryz.prog.cellsOf 5 = 1 := by kernel_rfl
def ByteOk (n : Int) : Prop := 0 ≤ n ∧ n ≤ 255
theorem byte_range {n : Int} (h : (Lit.int .u8 n).wf = true) : 0 ≤ n ∧ n ≤ 255 := by
  have e : IntKind.u8.min = 0 := by decide
  have e2 : IntKind.u8.max = 255 := by decide
  simp [Lit.wf] at h
  rw [e, e2] at h
  exact h
theorem weights_mem_all {H : Type} {P : Program} {e : TypeId} {d : DataW H} {n : Nat} : ∀ {l : List (DataW H)}, d ∈ l → n ∈ d.weights P e → n ∈ DataW.weightsAll P e l
  | x :: r, h, hn => by
    simp only [DataW.weightsAll, List.mem_append]
    rcases List.mem_cons.1 h with rfl | h
    · exact .inl hn
    · exact .inr (weights_mem_all h hn)
/-- a list of calls, at a world -/
def OpsAt (W : World) (v : Value) (l : List (Int × Int × Int × Int × ByteArray × Bool)) : Prop :=
  ∃ a cap, v = .slice a l.length cap ∧ (l ≠ [] → ∃ b off, a = some ⟨b, off, none⟩ ∧ b < W.heap.size ∧ ∀ j (h : j < l.length),
    W.cell? ⟨b, off + j * 6, none⟩ = some (.int .i64 l[j].1) ∧ W.cell? ⟨b, off + j * 6 + 1, none⟩ = some (.int .i64 l[j].2.1) ∧ W.cell? ⟨b, off + j * 6 + 2, none⟩ = some (.int .u8 l[j].2.2.1) ∧ W.cell? ⟨b, off + j * 6 + 3, none⟩ = some (.int .i64 l[j].2.2.2.1) ∧ W.cell? ⟨b, off + j * 6 + 4, none⟩ = some (.string l[j].2.2.2.2.1) ∧ W.cell? ⟨b, off + j * 6 + 5, none⟩ = some (.bool l[j].2.2.2.2.2))
def OpsOk (l : List (Int × Int × Int × Int × ByteArray × Bool)) : Prop := l.length ≤ 9223372036854775807 ∧ ∀ q ∈ l, IntOk q.1 ∧ IntOk q.2.1 ∧ ByteOk q.2.2.1 ∧ IntOk q.2.2.2.1 ∧ q.2.2.2.2.1.size ≤ 140737488351232
section
variable {H : Type} {enc : TypeId × Value → H} {W : World} {base : Nat} {v : Value} {d : DataW H} {p : List MemPlace}
end
theorem OpsAt.later {W W' : World} {v : Value} {l : List (Int × Int × Int × Int × ByteArray × Bool)} (h : OpsAt W v l) (hB : Below W.heap.size W W') : OpsAt W' v l := by
  obtain ⟨a, cap, h1, h2⟩ := h
  refine ⟨a, cap, h1, fun hne => ?_⟩
  obtain ⟨b, off, e, hb, hc⟩ := h2 hne
  have hk : ∀ i, W'.cell? ⟨b, i, none⟩ = W.cell? ⟨b, i, none⟩ := fun i => World.cell?_of_block (w := W) (hB.block b hb)
  refine ⟨b, off, e, Nat.lt_of_lt_of_le hb hB.size, fun j hj => ?_⟩
  rw [hk, hk, hk, hk, hk, hk]
  exact hc j hj
end Go.Proofs.YtknfakaklmpboaaGreatDoor

namespace Go.Proofs.YtknfakaklmpboaaGreatDoor
open Go.RowKit Go Go.Maps SM

theorem clamp (z a c : Int) (h : a ≤ c) : ∃ P Q : Int, (min z c = P ∧ (if c < z then c else z) = P ∧ (if z < c then z else c) = P) ∧ (max a P = Q ∧ (if a < P then P else a) = Q ∧ (if P < a then a else P) = Q) ∧ a ≤ Q ∧ Q ≤ c :=
  ⟨min z c, max a (min z c), ⟨rfl, by omega, by omega⟩, ⟨rfl, by omega, by omega⟩, by omega, by omega⟩
/-- how many sectors a law's disk has -/
theorem clampN (z : Int) : ∃ (P : Int) (n : Nat), (min z 40 = P ∧ (if (40 : Int) < z then 40 else z) = P ∧ (if z < 40 then z else 40) = P) ∧ (max 1 P = (n : Int) ∧ (if (1 : Int) < P then P else 1) = (n : Int) ∧ (if P < 1 then 1 else P) = (n : Int)) ∧ 1 ≤ n ∧ n ≤ 40 := by
  obtain ⟨P, Q, h1, ⟨h2, h3, h4⟩, h5, h6⟩ := clamp z 1 40 (by omega)
  exact ⟨P, Q.toNat, h1, ⟨by omega, by omega, by omega⟩, by omega, by omega⟩

/-- two texts that are not one, as the walk asks it -/
theorem texts_ne {a b : ByteArray} (h : a ≠ b) : (a.toList == b.toList) = false ∧ (a.toList != b.toList) = true := by
  have : (a.toList == b.toList) = false := by
    rw [ByteArray.toList_eq, ByteArray.toList_eq]
    exact beq_eq_false_iff_ne.2 (fun e => h (ByteArray.ext (Array.toList_inj.1 e)))
  exact ⟨this, by rw [bne, this]; rfl⟩
/-- a byte -/
def byteOf (n : Int) : UInt8 := UInt8.ofNat n.toNat
theorem byteOf_is {n : Int} (h : ByteOk n) : ((byteOf n).toNat : Int) = n := by
  obtain ⟨h1, h2⟩ := h
  simp [byteOf]; omega
/-- the power is there, nothing is armed, nothing is bad -/
structure Calm (n k : Nat) (s : DS) : Prop where
  ok : s.Ok
  dead : s.dead = false
  armed : s.armed = 0
  bad : ∀ j, s.bad j = false
  len : s.stay.length = n
  made : s.made ≤ k
section
variable {n k : Nat} {s : DS}
theorem calm_fresh {n : Nat} (h1 : 1 ≤ n) (h2 : n ≤ 16384) : Calm n 0 (fresh (blank n)) := ⟨blank_ok h1 h2, rfl, rfl, fun _ => rfl, by simp [fresh, blank], Nat.le_refl _⟩
theorem Calm.may (h : Calm n k s) (j : Int) : s.may j = if j < 0 ∨ (n : Int) ≤ j then 61 else 0 := by
  unfold DS.may
  rw [h.dead, h.len]
  rfl
theorem Calm.mono (h : Calm n k s) {k' : Nat} (hk : k ≤ k') : Calm n k' s := ⟨h.ok, h.dead, h.armed, h.bad, h.len, Nat.le_trans h.made hk⟩
theorem Calm.write_is (h : Calm n k s) (j : Int) (x : ByteArray) : s.write j x = if (0 ≤ j ∧ j < n) ∧ x.size = 64 then s.lays j x else s := by
  unfold DS.write DS.fits
  rw [h.may, h.bad, h.armed]
  by_cases h1 : j < 0 ∨ (n : Int) ≤ j
  · have : ¬ ((0 ≤ j ∧ j < n) ∧ x.size = 64) := by omega
    simp [h1, this]
  · have h2 : 0 ≤ j ∧ j < n := by omega
    by_cases h3 : x.size = 64
    · simp [h1, h2, h3]
    · simp [h1, h3]
theorem Calm.writeE_is (h : Calm n k s) (j : Int) {x : ByteArray} (hx : x.size = 64) : s.writeE j x = if j < 0 ∨ (n : Int) ≤ j then 61 else 0 := by
  unfold DS.writeE
  rw [h.may, h.bad, h.armed]
  by_cases h1 : j < 0 ∨ (n : Int) ≤ j <;> simp [h1, hx]
theorem Calm.write (h : Calm n k s) (j : Int) (x : ByteArray) : Calm n (k + 1) (s.write j x) := by
  rw [h.write_is]
  split
  · rename_i hc
    exact ⟨h.ok.lays hc.1.1 (by rw [h.len]; exact hc.1.2) hc.2, h.dead, by simp [DS.lays, DS.tick, h.armed], h.bad, h.len, by have := h.made; simp [DS.lays, DS.tick]; omega⟩
  · exact h.mono (by omega)
theorem Calm.sync_is (h : Calm n k s) : s.sync = s.tick.settled := by
  unfold DS.sync
  rw [h.dead, h.armed]
  rfl
theorem Calm.syncE_is (h : Calm n k s) : s.syncE = 0 := by
  unfold DS.syncE
  rw [h.dead, h.armed]
  rfl
theorem Calm.sync (h : Calm n k s) : Calm n (k + 1) s.sync := by
  rw [h.sync_is]
  exact ⟨h.ok.tick.settled, h.dead, by simp [DS.tick, DS.settled, h.armed], h.bad, by simp [DS.settled, DS.tick, length_laid, h.len], by have := h.made; simp [DS.settled, DS.tick]; omega⟩
theorem Calm.sync_loose (h : Calm n k s) : s.sync.loose = [] := by rw [h.sync_is]; rfl
theorem Calm.crashE_is (h : Calm n k s) : s.crashE = 0 := by simp [DS.crashE, h.dead]
theorem Calm.crash_is (h : Calm n k s) (keep : ByteArray) : s.crash keep = s.goes keep := by simp [DS.crash, h.dead]
theorem Calm.readE_is (h : Calm n k s) {j : Int} (h0 : 0 ≤ j) (h1 : j < n) : s.readE j = 0 := by
  unfold DS.readE
  rw [h.may, h.bad]
  simp; omega
theorem Calm.readS_is (h : Calm n k s) {j : Int} (h0 : 0 ≤ j) (h1 : j < n) : s.readS j = s.look j := by
  unfold DS.readS
  rw [h.readE_is h0 h1]
  rfl
/-- with no sector loose a crash changes nothing that stays -/
theorem Calm.crash_stay (h : Calm n k s) (hl : s.loose = []) (keep : ByteArray) : (s.crash keep).stay = s.stay := by
  rw [h.crash_is]
  show laid _ s.loose s.stay = s.stay
  rw [hl, laid_nil]
theorem Calm.back (h : Calm n k s) (hl : s.loose = []) (keep : ByteArray) : Calm n k (s.crash keep).revive := by
  refine ⟨(h.ok.crash keep).revive, rfl, rfl, ?_, ?_, ?_⟩
  · rw [h.crash_is]; exact h.bad
  · show (s.crash keep).stay.length = n
    rw [h.crash_stay hl, h.len]
  · rw [h.crash_is]; exact h.made
theorem Calm.back_look (h : Calm n k s) (hl : s.loose = []) (keep : ByteArray) {j : Nat} (hj : j < s.stay.length) : (s.crash keep).revive.look j = s.stay[j] := by
  have h1 : (s.crash keep).revive.loose = [] := by rw [h.crash_is]; rfl
  have h2 : (s.crash keep).revive.stay = s.stay := h.crash_stay hl keep
  unfold DS.look
  rw [h1, h2]
  simp [seek, hj]
end
/-- a part of what stays -/
theorem img_part {st : List ByteArray} (h : ∀ b ∈ st, b.size = 64) {j : Nat} (hj : j < st.length) : (img st).extract (64 * j) (64 * j + 64) = st[j] := by
  apply ByteArray.ext
  apply Array.toList_inj.1
  rw [← flat_at h j hj]
  simp [ByteArray.data_extract, List.extract_eq_take_drop, img]
theorem part_run (W : World) (I : ByteArray) (j : Nat) (h : 64 * (j : Int) + 64 ≤ I.size) :
    (Instr.slice 9 (.string I) (some (.int .i64 (64 * (j : Int)))) (some (.int .i64 (64 * (j : Int) + 64))) none).run Tryz.prog W = .ok (.string (I.extract (64 * j) (64 * j + 64))) W := by
  have := run_slice_string W 9 I .i64 .i64 (64 * (j : Int)) (64 * (j : Int) + 64) Tryz.underlying9 (by omega) (by omega) h
  rw [show (64 * (j : Int)).toNat = 64 * j by omega, show (64 * (j : Int) + 64).toNat = 64 * j + 64 by omega] at this
  exact this
end Go.Proofs.YtknfakaklmpboaaGreatDoor

namespace Go.Proofs.YtknfakaklmpboaaGreatDoor
open Go.RowKit Go Go.Maps SM

section
variable {b g m base n : Nat} {s : DS} {w w' : World} {e : TypeId} {v : Value} {xs : List Value}
theorem DiskAt.kinds (h : DiskAt b g m s w) : (∃ C f, w.heap[b]? = some (.cells C 82 f)) ∧ (∃ C f, w.heap[g]? = some (.cells C 5 f)) ∧ (∃ es c, w.heap[m]? = some (.map es c)) := by
  obtain ⟨h1, cap, B, cur, D, h2⟩ := h
  exact ⟨⟨_, _, h2.obj⟩, by obtain ⟨f, h3, _⟩ := h2.row.at_; exact ⟨_, f, h3⟩, h2.loose.obj⟩
theorem DiskAt.not_cells (h : DiskAt b g m s w) {k : Nat} {C : Array Value} {f : Nat × Nat} (hk : w.heap[k]? = some (.cells C e f)) (h1 : e ≠ 82) (h2 : e ≠ 5) : ¬ Foot b g m k := by
  obtain ⟨⟨C1, f1, e1⟩, ⟨C2, f2, e2⟩, ⟨es, c, e3⟩⟩ := h.kinds
  rintro (rfl | rfl | rfl)
  · rw [hk] at e1; simp at e1; exact h1 e1.2.1
  · rw [hk] at e2; simp at e2; exact h2 e2.2.1
  · rw [hk] at e3; cases e3
theorem stir_of_grown {row : Option Nat} (h : w.grownBy w' row) : Stir (fun k => row = some k) w w' := ⟨h.os, h.tape, h.output, h.size, fun k hk hn => h.block k hk (fun e => hn e.symm)⟩
theorem owns_block {size : Nat} (h : w.ownsRow base e size v n xs) {k : Nat} (hk : v.ownBlock = some k) : ∃ C, w.heap[k]? = some (.cells C e (0, 0)) := by
  rcases h.2 with ⟨rfl, _⟩ | ⟨g, cap, cur, rfl, _, hg, _⟩
  · cases hk
  · cases hk
    exact ⟨cur, hg⟩
/-- an append to a row of another kind -/
theorem DiskAt.grown {size : Nat} (h : DiskAt b g m s w) (hr : w.ownsRow base e size v n xs) (hg : w.grownBy w' v.ownBlock) (h1 : e ≠ 82) (h2 : e ≠ 5) : DiskAt b g m s w' :=
  h.stay (stir_of_grown hg) (fun i hi e' => by
    obtain ⟨C, hC⟩ := owns_block hr e'
    exact h.not_cells hC h1 h2 hi)
/-- a store into a row of another kind -/
theorem DiskAt.other {k i : Nat} {C : Array Value} {f : Nat × Nat} (h : DiskAt b g m s w) (hk : w.heap[k]? = some (.cells C e f)) (h1 : e ≠ 82) (h2 : e ≠ 5) (x : Value) : DiskAt b g m s (w.setCell ⟨k, i, none⟩ x) :=
  h.stay ((Stir.refl (· = k) w).set (.inl rfl) x) (fun j hj e' => by subst e'; exact h.not_cells hk h1 h2 hj)
theorem owns_stay {size : Nat} {F : Nat → Prop} (h : w.ownsRow base e size v n xs) (hs : Stir F w w') (hn : ∀ k, v.ownBlock = some k → ¬ F k) : w'.ownsRow base e size v n xs := by
  refine ⟨h.1, ?_⟩
  rcases h.2 with h' | ⟨g, cap, cur, rfl, hB, hg, rest⟩
  · exact .inl h'
  · exact .inr ⟨g, cap, cur, rfl, hB, hs.keep hg (hn g rfl), rest⟩
theorem owns_below {size : Nat} (h : w.ownsRow base e size v n xs) (hB : Below w.heap.size w w') : w'.ownsRow base e size v n xs := owns_stay h (Stir.of_below (F := fun _ => False) hB) (fun _ _ h => h)
/-- a row of another kind, while a disk does something -/
theorem owns_disk {size : Nat} (h : w.ownsRow base e size v n xs) (hd : DiskAt b g m s w) (hs : Stir (Foot b g m) w w') (h1 : e ≠ 82) (h2 : e ≠ 5) : w'.ownsRow base e size v n xs :=
  owns_stay h hs (fun k hk hf => by
    obtain ⟨C, hC⟩ := owns_block h hk
    exact hd.not_cells hC h1 h2 hf)
end

/-! ### What sectors tell -/
section
variable {n k : Nat} {s : DS}
theorem look_lays (s : DS) (j : Int) (x : ByteArray) (i : Int) : (s.lays j x).look i = if i = j then x else s.look i := by
  unfold DS.look
  show (match seek i (putL j x s.loose) 0 with | some z => z.2 | none => s.stay.getD i.toNat none0) = _
  rw [seek_putL]
  by_cases h : i = j
  · subst h; simp
  · simp only [h, if_false]; rfl
theorem look_settled (s : DS) {i : Nat} (hi : i < s.stay.length) : s.settled.look i = s.look i := by
  unfold DS.look
  show (laid (fun _ => true) s.loose s.stay).getD (i : Int).toNat none0 = _
  rw [Int.toNat_natCast, List.getD_eq_getElem?_getD, List.getElem?_eq_getElem (by rw [length_laid]; exact hi), Option.getD_some, get_laid _ _ _ _ hi]
  cases seek (i : Int) s.loose 0 with
  | none => simp [hi]
  | some z => simp
theorem Calm.sync_look (h : Calm n k s) {i : Nat} (hi : i < n) : s.sync.look i = s.look i := by
  rw [h.sync_is, look_settled]
  · rfl
  · show i < s.stay.length
    rw [h.len]; exact hi
theorem look_fresh {i : Nat} (hi : i < n) : (fresh (blank n)).look i = zero64 := by
  unfold DS.look
  simp [fresh, seek, blank, hi]
theorem sec_zero : sec 0 0 = zero64 := by simp [sec, zero64, secN_zero]
end
end Go.Proofs.YtknfakaklmpboaaGreatDoor

