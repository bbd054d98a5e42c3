/-
  TabA / TabE / TabF.
-/
import Derived.Test.YtfokdmijkniomaaGreatDoorT1
import Derived.Test.YtfokdmijkniomaaGreatDoorC1
import Derived.Maps.AppendAt
import Derived.Test.YtfokdmijkniomaaGreatDoorTN
import Derived.Deep.RegionHeld3
import Derived.Great.BuildSlice
namespace Go.Proofs.YtfokdmijkniomaaGreatDoor.WT
open Go.RowKit Go

def withinB (n a b : Int) : Bool := decide (a ≤ n) && decide (n ≤ b)
theorem within_any (n a b : Int) (w : World) :
    Calls Tryz.prog 133 #[.int .i64 n, .int .i64 a, .int .i64 b] w fun e w' => e = .returned (.bool (withinB n a b)) ∧ w = w' := by
  obtain ⟨r, hr⟩ : ∃ r, withinB n a b = r := ⟨_, rfl⟩
  rw [hr]
  have HR := Lib.hid hr
  clear hr
  by_cases h1 : a ≤ n
  · by_cases h2 : n ≤ b
    · have HE := Lib.hid (show r = true by rw [← HR.out, withinB, decide_eq_true h1, decide_eq_true h2]; rfl)
      go_enter Tryz.func133, Tryz.ntmps133
      go_wp2
      go_ret
      exact ⟨by rw [HE.out]; rfl, rfl⟩
    · have HE := Lib.hid (show r = false by rw [← HR.out, withinB, decide_eq_true h1, decide_eq_false h2]; rfl)
      go_enter Tryz.func133, Tryz.ntmps133
      go_wp2
      go_ret
      exact ⟨by rw [HE.out]; rfl, rfl⟩
  · have HE := Lib.hid (show r = false by rw [← HR.out, withinB, decide_eq_false h1]; rfl)
    go_enter Tryz.func133, Tryz.ntmps133
    go_wp2
    go_ret
    exact ⟨by rw [HE.out]; rfl, rfl⟩
theorem within_iff (n a b : Int) : withinB n a b = true ↔ a ≤ n ∧ n ≤ b := by simp [withinB]

/-! ### Texts put together -/
theorem join_flat (xs : List (List UInt8)) : Lib.join xs [] = xs.flatten := by
  match xs with
  | [] => rfl
  | x :: r =>
    rw [Lib.join_cons, Lib.joinTail, List.flatten_cons]
    simp
def strVs (l : List ByteArray) : List Value := l.map fun k => .string k
def flat (l : List ByteArray) : List UInt8 := l.flatMap fun s => s.data.toList
theorem join_at (v : Value) (xs : List ByteArray) (w : World) (a : Option Addr) (c : Nat) (hv : v = .slice a xs.length c) (hcap : xs.length ≤ c) (hn : xs.length ≤ 140737488355328) (hlen : (flat xs).length ≤ 140737488355328)
    (h : xs ≠ [] → ∃ b off, a = some ⟨b, off, none⟩ ∧ b < w.heap.size ∧ ∀ j (h : j < xs.length), w.cell? ⟨b, off + j, none⟩ = some (.string xs[j])) :
    Calls Tryz.prog 82 #[v, .string ⟨#[]⟩] w fun e w' => e = .returned (.string (bs (flat xs))) ∧ Below w.heap.size w w' := by
  have e : Lib.join (xs.map (·.data.toList)) (⟨#[]⟩ : ByteArray).data.toList = flat xs := by
    rw [show (⟨#[]⟩ : ByteArray).data.toList = [] from rfl, join_flat, flat, List.flatMap_def]
  by_cases hx : xs = []
  · subst hx
    subst hv
    refine (Any.strings_Join_none Tryz.lays156 Tryz.extra156 a c ⟨#[]⟩ w).mono ?_
    rintro e w' ⟨rfl, rfl⟩
    exact ⟨rfl, Below.refl _ _⟩
  · obtain ⟨b, off, rfl, hb, hc⟩ := h hx
    subst hv
    refine (Any.strings_Join Tryz.lays156 Tryz.extra156 b off c xs ⟨#[]⟩ w (fun j x hj => ?_) hb hn hcap (by rw [e]; exact hlen)).mono ?_
    · obtain ⟨hj1, rfl⟩ := List.getElem?_eq_some_iff.1 hj
      exact hc j hj1
    · rintro ev w' ⟨rfl, hB⟩
      exact ⟨by rw [e]; rfl, hB⟩
theorem join_row (v : Value) (xs : List ByteArray) (w : World) (base : Nat) (h : w.ownsRow base 9 1 v xs.length (strVs xs)) (hn : xs.length ≤ 1048576) (hlen : (flat xs).length ≤ 140737488355328) :
    Calls Tryz.prog 82 #[v, .string ⟨#[]⟩] w fun e w' => e = .returned (.string (bs (flat xs))) ∧ Below w.heap.size w w' := by
  rcases h.2 with ⟨rfl, h0⟩ | ⟨g, cap, cur, rfl, h2, h3, h4, h5, h6, h7⟩
  · have hx : xs = [] := List.eq_nil_of_length_eq_zero h0
    subst hx
    exact join_at _ [] w none 0 rfl (by simp) (by simp) (by simp [flat]) (fun e => absurd rfl e)
  · refine join_at _ xs w (some ⟨g, 0, none⟩) cap rfl h4 (by omega) hlen (fun _ => ⟨g, 0, rfl, lt_of_heap h3, fun j hj => ?_⟩)
    rw [Nat.zero_add, h.cellAt j (by omega)]
    simp [strVs, hj]
theorem info9 : (Tryz.prog.info? 9).map (fun i => (i.zero, i.size, i.bytes)) = some (some (.string ⟨#[]⟩), 1, 16) := by kernel_rfl
theorem strVs_snoc (l : List ByteArray) (x : ByteArray) : strVs (l ++ [x]) = strVs l ++ [.string x] := by simp [strVs]
theorem flat_snoc (l : List ByteArray) (x : ByteArray) : flat (l ++ [x]) = flat l ++ x.data.toList := by simp [flat]

/-! ### Numbers' bytes -/
def good (n : Int) : Prop := 0 ≤ n ∧ n ≤ 4611686018427387903
theorem numW_good {z : Int} (h : good z) : numW z = .tuple #[.string (bs (dg z.toNat)), .int .i64 0] := by
  have hb : bad z = false := by simp [bad]; exact ⟨h.1, h.2⟩
  unfold numW; rw [hb]; rfl
set_option maxRecDepth 100000 in
set_option maxHeartbeats 2000000 in
theorem nums_any (v : Value) (zs : List Int) (hz : zs.length ≤ 1000) (hg : ∀ z ∈ zs, good z) (w : World) (h : IntsAt w v zs) :
    Calls Tryz.prog 126 #[v] w fun e w' => e = .returned (.string (bs (layL (zs.map Int.toNat)))) ∧ Below w.heap.size w w' := by
  obtain ⟨a, cap, rfl, hc⟩ := h.split
  obtain ⟨i0, hi, hz0, hz1, hz2⟩ := info_parts info9
  have HC := Lib.hid hc
  have HG := Lib.hid hg
  clear hc hg h
  obtain ⟨N, hN⟩ : ∃ N, zs.length = N := ⟨_, rfl⟩
  rw [hN] at hz ⊢
  have HN := Lib.hid hN
  clear hN
  go_enter Tryz.func126, Tryz.ntmps126
  go_wp2
  go_loopw [3, 10] (fun v i wr => ∃ (k : Nat) (xs : List ByteArray), k ≤ N ∧ i = .int .i64 k ∧ xs.length = k ∧ flat xs = layL ((zs.take k).map Int.toNat) ∧ wr.ownsRow w.heap.size 9 1 v k (strVs xs) ∧ Below w.heap.size w wr) (fun _ i _ => N - (intOf i).toNat)
  case atStart => exact ⟨0, [], Nat.zero_le _, rfl, rfl, rfl, World.ownsRow_nil _ _ _ _, Below.refl _ _⟩
  case round =>
    obtain ⟨k, xs, hk, rfl, hxs, hfl, hrow, hB⟩ := hrel
    have HX := Lib.hid hxs
    have HF := Lib.hid hfl
    have HR := Lib.hid hrow
    have HB := Lib.hid hB
    clear hxs hfl hrow hB
    by_cases hlt : k < N
    · have hlt' : k < zs.length := by rw [HN.out]; exact hlt
      obtain ⟨b, off, rfl, hb, hcells⟩ := HC.out (by intro e; rw [e] at hlt'; simp at hlt')
      have hk1 : (k : Int) < (N : Int) := by omega
      have hcell : wr.cell? ⟨b, off + k, none⟩ = some (.int .i64 zs[k]) := by
        rw [World.cell?_of_block (w := w) (HB.out.block b hb)]; exact hcells k hlt'
      have HZ := Lib.hid (HG.out zs[k] (List.getElem_mem _))
      have HT := Lib.hid (show zs.take (k + 1) = zs.take k ++ [zs[k]] from List.take_succ_eq_append_getElem hlt')
      have C := fun w => wnum_any zs[k] w
      rw [numW_good HZ.out] at C
      generalize zs[k] = z at *
      clear hcells
      go_wp2_with fail
      refine (C _).mono ?_
      rintro e w2 ⟨rfl, hB2⟩
      have hB3 := HB.out.trans (hB2.mono HB.out.size)
      have hrow2 := owns_below HR.out hB2
      have hsz := hB3.size
      have HB3 := Lib.hid hB3
      clear hB2 hB3 HB HR C
      go_wp2_with (at_builtin; refine wpList_append_own _ rfl _ _ 45 rfl w.heap.size 9 i0 (.string ⟨#[]⟩) 1 16 Tryz.underlying45 hi hz0 hz1 hz2 rfl (by decide) _ _ _ rfl (hrow2.alloc _) ⟨w2.heap.size, 0, none⟩ 1 1 [.string (bs (dg z.toNat))] rfl rfl (cell_one_new _ _ _) (by simp [Value.oneCell']) (by unfold maxLen; omega) (by omega) (by simp; omega) ?_; intro v' w3 hown' hgrow _; have hB4 : Below w.heap.size w2 w3 := ((Below.refl _ w2).alloc hsz _).grown hgrow (by simp; omega) (fun j ej => (hrow2.lt j ej).1); have HB4 := Lib.hid (HB3.out.trans hB4); have HO := Lib.hid hown'; clear hown' hgrow hB4)
      go_roundw
      case rel => exact ⟨k + 1, xs ++ [bs (dg z.toNat)], by omega, by go_num, by simp [HX.out], by rw [flat_snoc, HF.out, HT.out, List.map_append, layL_append, bs_list]; simp [layL], by rw [strVs_snoc]; exact HO.out, HB4.out⟩
      case measure => simp [intOf]; omega
    · obtain rfl : k = N := by omega
      have hfull : zs.take k = zs := List.take_of_length_le (by rw [HN.out]; exact Nat.le_refl _)
      have hl2 : (flat xs).length ≤ 140737488355328 := by
        rw [HF.out, hfull]
        have := layL_len (zs.map Int.toNat) (fun n hn => by
          obtain ⟨z, hz, rfl⟩ := List.mem_map.1 hn
          have := HG.out z hz
          unfold good at this
          omega)
        rw [List.length_map, HN.out] at this
        omega
      have C := join_row _ xs wr w.heap.size (by rw [HX.out]; exact HR.out) (by rw [HX.out]; omega) hl2
      rw [HF.out, hfull] at C
      clear hl2 hfull
      go_wp2_with fail
      refine C.mono ?_
      rintro e w4 ⟨rfl, hB4⟩
      go_wp2_with fail
      go_ret
      exact ⟨rfl, HB.out.trans (hB4.mono HB.out.size)⟩
theorem text_any (s : ByteArray) (hs : s.size ≤ 65536) (w : World) :
    Calls Tryz.prog 128 #[.string s] w fun e w' => e = .returned (.string (bs (txt s))) ∧ Below w.heap.size w w' := by
  have C := fun w => wtext_any s (by omega) w
  have e : textW s.data.toList = .tuple #[.string (bs (txt s)), .int .i64 0] := by
    have hl : s.data.toList.length = s.size := Array.length_toList (xs := s.data)
    unfold textW; rw [hl, if_pos hs]; rfl
  rw [e] at C
  go_enter Tryz.func128, Tryz.ntmps128
  go_wp2_with fail
  refine (C _).mono ?_
  rintro e w' ⟨rfl, hB⟩
  go_wp2
  go_ret
  exact ⟨rfl, hB⟩
end Go.Proofs.YtfokdmijkniomaaGreatDoor.WT

namespace Go.Proofs.YtfokdmijkniomaaGreatDoor.WT
open Go.RowKit Go

theorem ints_new (w : World) (zs : List Int) (t : TypeId) : IntsAt (w.alloc (.cells (zs.map fun z => Value.int .i64 z).toArray t)) (.slice (some ⟨w.heap.size, 0, none⟩) zs.length zs.length) zs := by
  refine IntsAt.at w.heap.size 0 zs.length rfl (by simp) fun j hj => ?_
  have h := heap_alloc_new w (.cells (zs.map fun z => Value.int .i64 z).toArray t)
  generalize w.alloc (.cells (zs.map fun z => Value.int .i64 z).toArray t) = W at h ⊢
  simp [World.cell?, h, hj]
/-- numbers that were put in a new row -/
theorem nums_new (zs : List Int) (hz : zs.length ≤ 1000) (hg : ∀ z ∈ zs, good z) (w : World) (t : TypeId) :
    Calls Tryz.prog 126 #[.slice (some ⟨w.heap.size, 0, none⟩) zs.length zs.length] (w.alloc (.cells (zs.map fun z => Value.int .i64 z).toArray t)) fun e w' => e = .returned (.string (bs (layL (zs.map Int.toNat)))) ∧ Below w.heap.size w w' := by
  refine (nums_any _ zs hz hg _ (ints_new w zs t)).mono ?_
  rintro e w' ⟨rfl, hB⟩
  exact ⟨rfl, ((Below.refl _ w).alloc (Nat.le_refl _) _).trans (hB.mono (by simp))⟩
/-- the same, with something done in between -/
theorem nums_late (zs : List Int) (hz : zs.length ≤ 1000) (hg : ∀ z ∈ zs, good z) (w : World) (t : TypeId) (w' : World) (hB : Below (w.alloc (.cells (zs.map fun z => Value.int .i64 z).toArray t)).heap.size (w.alloc (.cells (zs.map fun z => Value.int .i64 z).toArray t)) w') :
    Calls Tryz.prog 126 #[.slice (some ⟨w.heap.size, 0, none⟩) zs.length zs.length] w' fun e w'' => e = .returned (.string (bs (layL (zs.map Int.toNat)))) ∧ Below w'.heap.size w' w'' :=
  nums_any _ zs hz hg _ ((ints_new w zs t).later hB)
/-! ### Inodes -/
end Go.Proofs.YtfokdmijkniomaaGreatDoor.WT

namespace Go.Proofs.YtfokdmijkniomaaGreatDoor.WT
open Go.RowKit Go

theorem below_undrew {B : Nat} {a w : World} (h : Below B a.drew w) : Below B a w := ⟨h.os, h.tape, h.output, h.size, h.block⟩
theorem entL_any (x y : Ent) (w : World) :
    Calls Tryz.prog 134 #[entV x, entV y] w fun e w' => e = .returned (.bool (Op.bytesLess x.name.toList y.name.toList)) ∧ Below w.heap.size w w' := by
  obtain ⟨name, num⟩ := x
  obtain ⟨name2, num2⟩ := y
  unfold entV
  go_enter Tryz.func134, Tryz.ntmps134
  go_wp2
  go_ret
  exact ⟨rfl, ((Below.refl _ w).alloc (Nat.le_refl _) _).alloc (by simp) _⟩
set_option maxRecDepth 100000 in
set_option maxHeartbeats 2000000 in
theorem entE_any (x : Ent) (h : EntOk x) (w : World) :
    Calls Tryz.prog 127 #[entV x] w fun e w' => e = .returned (.string (bs (entEnc x))) ∧ Below w.heap.size w w' := by
  obtain ⟨name, num⟩ := x
  obtain ⟨h1, h2, h3⟩ := h
  simp only at h1 h2 h3
  unfold entV
  have hg : ∀ z ∈ [num], good z := by intro z hz; obtain rfl := List.mem_singleton.1 hz; constructor <;> omega
  have CN := nums_new [num] (by simp) hg
  have CL := nums_late [num] (by simp) hg
  have HE := Lib.hid (show bs (txt name ++ layL [num.toNat]) = bs (entEnc ⟨name, num⟩) from rfl)
  have CT := fun w => text_any name (by have := h1.2.1; omega) w
  simp only [List.map_cons, List.map_nil, List.length_cons, List.length_nil, Nat.reduceAdd] at CN CL
  obtain ⟨T, hT⟩ : ∃ T, txt name = T := ⟨_, rfl⟩
  obtain ⟨L, hL⟩ : ∃ L, layL [num.toNat] = L := ⟨_, rfl⟩
  have HL := Lib.hid (show T.length ≤ 17 ∧ L.length ≤ 9 by
    rw [← hT, ← hL]
    refine ⟨txt_len h1.2.1, ?_⟩
    rw [layL_one]
    exact dg_9 (by omega))
  rw [hT, hL, bs_append] at HE
  rw [hL] at CN CL
  rw [hT] at CT
  have nsum : ¬ 9223372036854775807 < (bs T).size + (bs L).size := by rw [bs_size, bs_size]; have := HL.out; omega
  clear HL hT hL
  generalize bs T = D at *
  generalize bs L = E at *
  obtain ⟨w0, hw0⟩ : ∃ w0, w.alloc (.cells #[.string name, .int .i64 num] 88) = w0 := ⟨_, rfl⟩
  have hh : w0.heap[w.heap.size]? = some (.cells #[.string name, .int .i64 num] 88 (0, 0)) := by rw [← hw0]; exact heap_alloc_new _ _
  have HB := Lib.hid (show Below w.heap.size w w0.drew by rw [← hw0]; exact ((Below.refl _ w).alloc (Nat.le_refl _) _).drew)
  have HK := Lib.hid (show ∀ W, Below w0.drew.heap.size w0.drew W → W.cell? ⟨w.heap.size, 0, none⟩ = some (.string name) ∧ W.cell? ⟨w.heap.size, 1, none⟩ = some (.int .i64 num) from fun W hB => by
    have hl := lt_of_heap hh
    have e := (hB.block w.heap.size hl).trans hh
    exact ⟨by simp [World.cell?, e], by simp [World.cell?, e]⟩)
  have HR := Lib.hid (Below.refl w0.drew.heap.size w0.drew)
  have HCN := Lib.hid CN
  have HCL := Lib.hid CL
  have HCT := Lib.hid CT
  clear hh h1 h2 h3 hg CN CL CT
  go_enter Tryz.func127, Tryz.ntmps127
  go_wp2
  go_region_held3 (fun w' => w'.cell? ⟨w.heap.size, 0, none⟩ = some (.string name) ∧ w'.cell? ⟨w.heap.size, 1, none⟩ = some (.int .i64 num))
    (first | exact HK.out _ HR.out | exact HK.out _ K2.out | exact HK.out _ K1.out | exact HK.out _ (K1.out.alloc K1.out.size _) | exact HK.out _ (HR.out.alloc (Nat.le_refl _) _))
    (first
      | (go_at_call 128; refine (HCT.out w0.drew).mono ?_; rintro e w1 ⟨rfl, hB⟩; have K1 := Lib.hid hB; clear hB)
      | (go_at_call 128; refine (HCT.out _).mono ?_; rintro e w1 ⟨rfl, hB⟩; have KB := Lib.hid hB; have K1 := Lib.hid ((HR.out.alloc (Nat.le_refl _) (.cells #[.int .i64 num] 3)).trans (KB.out.mono (by simp))); clear hB)
      | (go_at_call 126; refine (HCN.out _ _).mono ?_; rintro e w2 ⟨rfl, hB⟩; have K2 := Lib.hid (K1.out.trans (hB.mono K1.out.size)); clear hB)
      | (go_at_call 126; refine (HCL.out w0 _ _ (below_undrew KB.out)).mono ?_; rintro e w2 ⟨rfl, hB⟩; have K2 := Lib.hid (K1.out.trans (hB.mono K1.out.size)); clear hB))
  all_goals (
    go_wp2
    go_ret
    exact ⟨by rw [← HE.out]; rfl, HB.out.trans (K2.out.mono HB.out.size)⟩)
noncomputable def okEB (x : Ent) : Bool := nameB x.name && withinB x.num 1 65535
theorem okEB_iff (x : Ent) : okEB x = true ↔ EntOk x := by
  unfold okEB EntOk
  rw [Bool.and_eq_true, nameB_iff, within_iff]
set_option maxRecDepth 100000 in
set_option maxHeartbeats 2000000 in
theorem entM_any (x : Ent) (hx : x.name.size ≤ 140737488355328) (w : World) :
    Calls Tryz.prog 132 #[entV x] w fun e w' => e = .returned (.bool (okEB x)) ∧ Below w.heap.size w w' := by
  obtain ⟨name, num⟩ := x
  obtain ⟨z, hz⟩ : ∃ z, okEB ⟨name, num⟩ = z := ⟨_, rfl⟩
  rw [hz]
  unfold okEB at hz
  simp only at hz hx
  unfold entV
  obtain ⟨w0, hw0⟩ : ∃ w0, w.alloc (.cells #[.string name, .int .i64 num] 88) = w0 := ⟨_, rfl⟩
  have hh : w0.heap[w.heap.size]? = some (.cells #[.string name, .int .i64 num] 88 (0, 0)) := by rw [← hw0]; exact heap_alloc_new _ _
  have HB := Lib.hid (show Below w.heap.size w w0 by rw [← hw0]; exact (Below.refl _ w).alloc (Nat.le_refl _) _)
  have c0 : w0.cell? ⟨w.heap.size, 0, none⟩ = some (.string name) := by simp [World.cell?, hh]
  have c1 : w0.cell? ⟨w.heap.size, 1, none⟩ = some (.int .i64 num) := by simp [World.cell?, hh]
  have C1 := fun w => name_any name (by omega) w
  have C2 := fun w => within_any num 1 65535 w
  generalize nameB name = p at *
  generalize withinB num 1 65535 = q at *
  have HZ := Lib.hid hz
  clear hz hh
  cases p with
  | false =>
    go_enter Tryz.func132, Tryz.ntmps132
    go_wp2_with (first
      | (go_at_call 97; refine (C1 _).mono ?_; rintro e w' ⟨rfl, rfl⟩)
      | (go_at_call 133; refine (C2 _).mono ?_; rintro e w' ⟨rfl, rfl⟩))
    go_ret
    exact ⟨by rw [← HZ.out]; rfl, HB.out⟩
  | true =>
    go_enter Tryz.func132, Tryz.ntmps132
    go_wp2_with (first
      | (go_at_call 97; refine (C1 _).mono ?_; rintro e w' ⟨rfl, rfl⟩)
      | (go_at_call 133; refine (C2 _).mono ?_; rintro e w' ⟨rfl, rfl⟩))
    go_ret
    exact ⟨by rw [← HZ.out]; simp, HB.out⟩
end Go.Proofs.YtfokdmijkniomaaGreatDoor.WT

