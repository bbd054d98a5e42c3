/-
  A map as an object; its small methods.
-/
import Derived.Test.YteboacjniokfpaaDoorPlnMath
import Derived.Test.YteboacjniokfpaaDoorLawKit
import Derived.Deep.RegionWith
import Derived.Deep.MidRow
namespace Go.Proofs.YteboacjniokfpaaDoor
open Go.ChangeShapes Go.WideShapes Go.ChangeAt Go.RowKit Go SM PL

def mapCells (n : Nat) (f : Nat → List UInt8) : List Value := .int .i64 n :: (List.range 8).map fun p => Value.string (bs (f p))
def MapO (n : Nat) (f : Nat → List UInt8) : Obj := .cells (mapCells n f).toArray 56 (0, 0)
section
variable {q n : Nat} {f : Nat → List UInt8} {w w' : World}
theorem MapO.c0 (h : w.heap[q]? = some (MapO n f)) : w.cell? ⟨q, 0, none⟩ = some (.int .i64 n) := by simp [World.cell?, h, MapO, mapCells]
theorem MapO.cp (h : w.heap[q]? = some (MapO n f)) {p : Nat} (hp : p < 8) : w.cell? ⟨q, 1 + p, none⟩ = some (.string (bs (f p))) := by
  simp [World.cell?, h, MapO, mapCells, Nat.add_comm 1 p, hp]
theorem MapO.fr (h : w.heap[q]? = some (MapO n f)) (i : Nat) : w.frozen? ⟨q, i, none⟩ = false := by simp [World.frozen?, h, MapO]
theorem MapO.put (h : w.heap[q]? = some (MapO n f)) (p : Nat) (l : List UInt8) : (w.setCell ⟨q, 1 + p, none⟩ (.string (bs l))).heap[q]? = some (MapO n (upd f p l)) := by
  rw [heap_set h]
  congr 2
  simp only [List.setIfInBounds_toArray]
  congr 1
  rw [mapCells, mapCells, Nat.add_comm 1 p, List.set_cons_succ]
  congr 1
  apply List.ext_getElem
  · simp
  · intro j h1 h2
    simp only [List.getElem_set, List.getElem_map, List.getElem_range, upd]
    by_cases e : p = j
    · subst e; simp
    · rw [if_neg e, if_neg (fun h => e h.symm)]
end
/-- a map in memory -/
structure MapAt (q n : Nat) (f : Nat → List UInt8) (w : World) : Prop where
  obj : w.heap[q]? = some (MapO n f)
  ok : Ok n f
section
variable {q n : Nat} {f : Nat → List UInt8} {w w' : World}
theorem MapAt.below (h : MapAt q n f w) (k : Below w.heap.size w w') : MapAt q n f w' := ⟨keeps_of k h.obj, h.ok⟩
theorem MapAt.stay {F : Nat → Prop} (h : MapAt q n f w) (k : Stir F w w') (hn : ¬ F q) : MapAt q n f w' := ⟨k.keep h.obj hn, h.ok⟩
theorem MapAt.lt (h : MapAt q n f w) : q < w.heap.size := lt_of_heap h.obj
theorem MapAt.drew (h : MapAt q n f w) : MapAt q n f w.drew := ⟨h.obj, h.ok⟩
end

def isP (p : Int) : Bool := decide (0 ≤ p) && decide (p < 8)
theorem isP_yes {p : Int} (h : isP p = true) : ∃ k : Nat, p = (k : Int) ∧ k < 8 := by
  simp only [isP, Bool.and_eq_true, decide_eq_true_eq] at h
  exact ⟨p.toNat, by omega, by omega⟩
theorem isP_nat {k : Nat} (h : k < 8) : isP (k : Int) = true := by simp [isP]; omega
theorem mhas_any (v : Value) (p : Int) (h1 : -9223372036854775808 ≤ p) (h2 : p ≤ 9223372036854775807) (w : World) :
    Calls Tryd.prog 37 #[v, .int .i64 p] w fun e w' => e = .returned (.bool (isP p)) ∧ w = w' := by
  obtain ⟨B, hB⟩ : ∃ B, isP p = B := ⟨_, rfl⟩
  rw [hB]
  unfold isP at hB
  by_cases a : 0 ≤ p
  · by_cases b : p < 8
    · have HE := Lib.hid hB
      clear hB
      go_enter Tryd.func37, Tryd.ntmps37
      go_wp2
      go_ret
      exact ⟨by rw [← HE.out]; simp [a, b], rfl⟩
    · have HE := Lib.hid hB
      clear hB
      go_enter Tryd.func37, Tryd.ntmps37
      go_wp2
      go_ret
      exact ⟨by rw [← HE.out]; simp [b], rfl⟩
  · have HE := Lib.hid hB
    clear hB
    go_enter Tryd.func37, Tryd.ntmps37
    go_wp2
    go_ret
    exact ⟨by rw [← HE.out, decide_eq_false (show ¬ 0 ≤ p by omega)]; rfl, rfl⟩

theorem bit0_I (l : List UInt8) : bitI l 0 = bit l 0 := by simp [bitI]
theorem next_of (l : List UInt8) (n : Nat) : ∃ a : Int, nextV l (n : Int) = .tuple #[.int .i64 a, .bool ((nums l n).head?.isSome)] := by
  unfold nextV
  rw [Int.toNat_natCast]
  cases (nums l n).head? with
  | none => exact ⟨0, rfl⟩
  | some x => exact ⟨x, rfl⟩
theorem holds_any (q n : Nat) (f : Nat → List UInt8) (s : ByteArray) (hs : s.size ≤ 140737488355328) (w : World) (h : MapAt q n f w) :
    Calls Tryd.prog 38 #[.pointer (some ⟨q, 0, none⟩), .string s] w fun e w' => e = .returned (.bool (fitsB n s.data.toList)) ∧ Below w.heap.size w w' := by
  have c0 := MapO.c0 h.obj
  have hn := h.ok.hi
  obtain ⟨a, ha⟩ := next_of s.data.toList n
  have CN := next_any s (n : Int) hs (by omega) (by omega) w
  rw [ha] at CN
  have CH := fun W => has_any s 0 W hs (by omega) (by omega)
  rw [bit0_I] at CH
  obtain ⟨B, hB⟩ : ∃ B, fitsB n s.data.toList = B := ⟨_, rfl⟩
  rw [hB]
  unfold fitsB at hB
  have HE := Lib.hid hB
  clear ha hB h
  generalize bit s.data.toList 0 = z at *
  generalize (nums s.data.toList n).head? = y at *
  cases y with
  | none =>
    simp only [Option.isSome_none] at CN
    go_enter Tryd.func38, Tryd.ntmps38
    go_wp2_with fail
    refine CN.mono ?_
    rintro e w1 ⟨rfl, hB1⟩
    have HB1 := Lib.hid hB1
    clear hB1
    go_wp2_with fail
    refine (CH _).mono ?_
    rintro e w2 ⟨rfl, rfl⟩
    go_wp2
    go_ret
    exact ⟨by rw [← HE.out]; simp, HB1.out⟩
  | some y =>
    simp only [Option.isSome_some] at CN
    go_enter Tryd.func38, Tryd.ntmps38
    go_wp2_with fail
    refine CN.mono ?_
    rintro e w1 ⟨rfl, hB1⟩
    have HB1 := Lib.hid hB1
    clear hB1
    go_wp2
    go_ret
    exact ⟨by rw [← HE.out]; simp, HB1.out⟩

/-! ### Put, Clear -/
def putE (n : Nat) (p : Int) (l : List UInt8) : Int := if isP p && fitsB n l then 0 else 91
def putF (n : Nat) (f : Nat → List UInt8) (p : Int) (l : List UInt8) : Nat → List UInt8 := if isP p && fitsB n l then upd f p.toNat (least l) else f
theorem ok_putF {n : Nat} {f : Nat → List UInt8} (h : Ok n f) (p : Int) (l : List UInt8) : Ok n (putF n f p l) := by
  unfold putF
  split
  · rename_i hc
    rw [Bool.and_eq_true] at hc
    exact h.put (fits_iff.1 hc.2) _
  · exact h
set_option maxRecDepth 100000 in
theorem put_any (q n : Nat) (f : Nat → List UInt8) (p : Int) (h1 : -9223372036854775808 ≤ p) (h2 : p ≤ 9223372036854775807) (s : ByteArray) (hs : s.size ≤ 140737488355328) (w : World) (h : MapAt q n f w) :
    Calls Tryd.prog 17 #[.pointer (some ⟨q, 0, none⟩), .int .i64 p, .string s] w fun e w' => e = .returned (.int .i64 (putE n p s.data.toList)) ∧ MapAt q n (putF n f p s.data.toList) w' ∧ Stir (· = q) w w' := by
  have hok := ok_putF h.ok p s.data.toList
  have C1 := mhas_any (.pointer (some ⟨q, 0, none⟩)) p h1 h2 w
  have C2 := holds_any q n f s hs w h
  have C3 := fun W => or_b s ⟨#[]⟩ W hs (by decide)
  have HH := Lib.hid h
  obtain ⟨E, hE⟩ : ∃ E, putE n p s.data.toList = E := ⟨_, rfl⟩
  obtain ⟨G, hG⟩ : ∃ G, putF n f p s.data.toList = G := ⟨_, rfl⟩
  rw [hE, hG]
  rw [hG] at hok
  unfold putE at hE
  unfold putF at hG
  cases hp : isP p with
  | false =>
    rw [hp] at C1 hE hG
    simp only [Bool.false_and, Bool.false_eq_true, if_false] at hE hG
    have HE := Lib.hid (And.intro hE hG)
    clear hE hG h C2 C3
    go_enter Tryd.func17, Tryd.ntmps17
    go_wp2_with fail
    refine C1.mono ?_
    rintro e w1 ⟨rfl, rfl⟩
    go_wp2
    go_ret
    exact ⟨by rw [← HE.out.1]; rfl, by rw [← HE.out.2]; exact HH.out, Stir.refl _ _⟩
  | true =>
    obtain ⟨k, rfl, hk⟩ := isP_yes hp
    rw [hp] at C1 hE hG
    cases hf : fitsB n s.data.toList with
    | false =>
      rw [hf] at C2 hE hG
      simp only [Bool.and_false, Bool.false_eq_true, if_false] at hE hG
      have HE := Lib.hid (And.intro hE hG)
      clear hE hG h C3
      go_enter Tryd.func17, Tryd.ntmps17
      go_wp2_with fail
      refine C1.mono ?_
      rintro e w1 ⟨rfl, rfl⟩
      go_wp2_with fail
      refine C2.mono ?_
      rintro e w2 ⟨rfl, hB2⟩
      have HB2 := Lib.hid hB2
      clear hB2
      go_wp2
      go_ret
      exact ⟨by rw [← HE.out.1]; rfl, by rw [← HE.out.2]; exact HH.out.below HB2.out, Stir.of_below HB2.out⟩
    | true =>
      rw [hf] at C2 hE hG
      simp only [Bool.and_self, if_true, Int.toNat_natCast] at hE hG
      have HE := Lib.hid (And.intro hE hG)
      have HX := Lib.hid (show orB s ⟨#[]⟩ = bs (least s.data.toList) by unfold orB; rw [← mk_or_nil])
      clear hE hG h
      have hk1 : (0 : Int) ≤ (k : Int) := by omega
      have hk2 : (k : Int) < 8 := by omega
      generalize orB s ⟨#[]⟩ = X at *
      go_enter Tryd.func17, Tryd.ntmps17
      go_wp2_with fail
      refine C1.mono ?_
      rintro e w1 ⟨rfl, rfl⟩
      go_wp2_with fail
      refine C2.mono ?_
      rintro e w2 ⟨rfl, hB2⟩
      have H2 := Lib.hid (HH.out.below hB2)
      have HB2 := Lib.hid hB2
      clear hB2 C2
      go_wp2_with fail
      go_region_with (go_at_call 32; refine (C3 _).mono ?_; rintro e w3 ⟨rfl, hB3⟩; have H3 := H2.out.drew.below hB3; have c3 := MapO.cp H3.obj hk; have f3 := MapO.fr H3.obj (1 + k))
      all_goals (
        go_wp2
        go_ret
        exact ⟨by rw [← HE.out.1]; rfl, ⟨by rw [HX.out, ← HE.out.2]; exact MapO.put H3.obj k _, hok⟩, ((Stir.of_below (F := (· = q)) HB2.out).drew.and_below hB3).set (.inl rfl) _⟩)
theorem clear_any (q n : Nat) (f : Nat → List UInt8) (p : Int) (h1 : -9223372036854775808 ≤ p) (h2 : p ≤ 9223372036854775807) (w : World) (h : MapAt q n f w) :
    Calls Tryd.prog 21 #[.pointer (some ⟨q, 0, none⟩), .int .i64 p] w fun e w' => e = .returned (.int .i64 (putE n p [])) ∧ MapAt q n (putF n f p []) w' ∧ Stir (· = q) w w' := by
  have C : ∀ W, MapAt q n f W → Calls Tryd.prog 17 #[.pointer (some ⟨q, 0, none⟩), .int .i64 p, .string ⟨#[]⟩] W fun e w' => e = .returned (.int .i64 (putE n p [])) ∧ MapAt q n (putF n f p []) w' ∧ Stir (· = q) W w' := fun W h => put_any q n f p h1 h2 ⟨#[]⟩ (by decide) W h
  generalize putE n p [] = E at *
  generalize putF n f p [] = G at *
  go_enter Tryd.func21, Tryd.ntmps21
  go_wp2_with fail
  refine (C _ h).mono ?_
  rintro e w1 ⟨rfl, h1, h2⟩
  go_wp2
  go_ret
  exact ⟨rfl, h1, h2⟩

/-! ### Plane, Blocks, Copy, New -/
def planeV (f : Nat → List UInt8) (p : Int) : Value := if isP p then .tuple #[.string (bs (f p.toNat)), .int .i64 0] else .tuple #[.string ⟨#[]⟩, .int .i64 91]
theorem plane_any (q n : Nat) (f : Nat → List UInt8) (p : Int) (h1 : -9223372036854775808 ≤ p) (h2 : p ≤ 9223372036854775807) (w : World) (h : MapAt q n f w) :
    Calls Tryd.prog 25 #[.pointer (some ⟨q, 0, none⟩), .int .i64 p] w fun e w' => e = .returned (planeV f p) ∧ w = w' := by
  have C1 := mhas_any (.pointer (some ⟨q, 0, none⟩)) p h1 h2 w
  unfold planeV
  cases hp : isP p with
  | false =>
    rw [hp] at C1
    simp only [Bool.false_eq_true, if_false]
    go_enter Tryd.func25, Tryd.ntmps25
    go_wp2_with fail
    refine C1.mono ?_
    rintro e w1 ⟨rfl, rfl⟩
    go_wp2
    go_ret2
    exact ⟨rfl, rfl⟩
  | true =>
    obtain ⟨k, rfl, hk⟩ := isP_yes hp
    rw [hp] at C1
    simp only [if_true, Int.toNat_natCast]
    have hk1 : (0 : Int) ≤ (k : Int) := by omega
    have hk2 : (k : Int) < 8 := by omega
    have c := MapO.cp h.obj hk
    go_enter Tryd.func25, Tryd.ntmps25
    go_wp2_with fail
    refine C1.mono ?_
    rintro e w1 ⟨rfl, rfl⟩
    go_wp2
    go_ret2
    exact ⟨rfl, rfl⟩
theorem mblocks_any (q n : Nat) (f : Nat → List UInt8) (w : World) (h : MapAt q n f w) :
    Calls Tryd.prog 14 #[.pointer (some ⟨q, 0, none⟩)] w fun e w' => e = .returned (.int .i64 n) ∧ w = w' := by
  have c := MapO.c0 h.obj
  go_enter Tryd.func14, Tryd.ntmps14
  go_wp2
  go_ret
  exact ⟨rfl, rfl⟩
def copyE (p t : Int) : Int := if isP p && isP t then 0 else 91
def copyF (f : Nat → List UInt8) (p t : Int) : Nat → List UInt8 := if isP p && isP t then upd f t.toNat (f p.toNat) else f
theorem copy_any' (q n : Nat) (f : Nat → List UInt8) (p t : Int) (h1 : -9223372036854775808 ≤ p) (h2 : p ≤ 9223372036854775807) (h3 : -9223372036854775808 ≤ t) (h4 : t ≤ 9223372036854775807) (w : World) (h : MapAt q n f w) :
    Calls Tryd.prog 19 #[.pointer (some ⟨q, 0, none⟩), .int .i64 p, .int .i64 t] w fun e w' => e = .returned (.int .i64 (copyE p t)) ∧ MapAt q n (copyF f p t) w' ∧ Stir (· = q) w w' := by
  have C1 := mhas_any (.pointer (some ⟨q, 0, none⟩)) p h1 h2 w
  have C2 := mhas_any (.pointer (some ⟨q, 0, none⟩)) t h3 h4 w
  unfold copyE copyF
  cases hp : isP p with
  | false =>
    rw [hp] at C1
    simp only [Bool.false_and, Bool.false_eq_true, if_false]
    go_enter Tryd.func19, Tryd.ntmps19
    go_wp2_with fail
    refine C1.mono ?_
    rintro e w1 ⟨rfl, rfl⟩
    go_wp2
    go_ret
    exact ⟨rfl, h, Stir.refl _ _⟩
  | true =>
    obtain ⟨k, rfl, hk⟩ := isP_yes hp
    rw [hp] at C1
    cases ht : isP t with
    | false =>
      rw [ht] at C2
      simp only [Bool.and_false, Bool.false_eq_true, if_false]
      go_enter Tryd.func19, Tryd.ntmps19
      go_wp2_with fail
      refine C1.mono ?_
      rintro e w1 ⟨rfl, rfl⟩
      go_wp2_with fail
      refine C2.mono ?_
      rintro e w1 ⟨rfl, rfl⟩
      go_wp2
      go_ret
      exact ⟨rfl, h, Stir.refl _ _⟩
    | true =>
      obtain ⟨j, rfl, hj⟩ := isP_yes ht
      rw [ht] at C2
      simp only [Bool.and_self, if_true, Int.toNat_natCast]
      have hk1 : (0 : Int) ≤ (k : Int) := by omega
      have hk2 : (k : Int) < 8 := by omega
      have hj1 : (0 : Int) ≤ (j : Int) := by omega
      have hj2 : (j : Int) < 8 := by omega
      have c := MapO.cp h.obj hk
      have d := MapO.cp h.obj hj
      have fr := MapO.fr h.obj (1 + j)
      have HH := Lib.hid h
      clear h
      go_enter Tryd.func19, Tryd.ntmps19
      go_wp2_with fail
      refine C1.mono ?_
      rintro e w1 ⟨rfl, rfl⟩
      go_wp2_with fail
      refine C2.mono ?_
      rintro e w1 ⟨rfl, rfl⟩
      go_wp2_with fail
      go_region
      all_goals (
        go_wp2
        go_ret
        exact ⟨rfl, ⟨MapO.put HH.out.obj j _, HH.out.ok.copy hk j⟩, ((Stir.refl (· = q) w).set (.inl rfl) _).drew⟩)
def newV (b : Int) (a : Nat) : Value := if decide (b < 8) || decide (4096 < b) then .tuple #[.pointer none, .int .i64 90] else .tuple #[.pointer (some ⟨a, 0, none⟩), .int .i64 0]
theorem mapO_new (n : Nat) : MapO n (fun _ => []) = .cells #[.int .i64 n, .string ⟨#[]⟩, .string ⟨#[]⟩, .string ⟨#[]⟩, .string ⟨#[]⟩, .string ⟨#[]⟩, .string ⟨#[]⟩, .string ⟨#[]⟩, .string ⟨#[]⟩] 56 (0, 0) := rfl
theorem new_no (b : Int) (hb : b < 8 ∨ 4096 < b) (w : World) :
    Calls Tryd.prog 9 #[.int .i64 b] w fun e w' => e = .returned (.tuple #[.pointer none, .int .i64 90]) ∧ w = w' := by
  by_cases h : b < 8
  · go_enter Tryd.func9, Tryd.ntmps9
    go_wp2
    go_ret2
    exact ⟨rfl, rfl⟩
  · have h2 : 4096 < b := by omega
    go_enter Tryd.func9, Tryd.ntmps9
    go_wp2
    go_ret2
    exact ⟨rfl, rfl⟩
theorem new_yes (n : Nat) (h1 : 8 ≤ n) (h2 : n ≤ 4096) (w : World) :
    Calls Tryd.prog 9 #[.int .i64 n] w fun e w' => e = .returned (.tuple #[.pointer (some ⟨w.heap.size, 0, none⟩), .int .i64 0]) ∧ MapAt w.heap.size n (fun _ => []) w' ∧ Below w.heap.size w w' := by
  have a1 : ¬ (n : Int) < 8 := by omega
  have a2 : ¬ (4096 : Int) < (n : Int) := by omega
  have hok := ok_new h1 h2
  clear h1 h2
  go_enter Tryd.func9, Tryd.ntmps9
  go_wp2
  go_ret2
  exact ⟨rfl, ⟨by rw [mapO_new]; exact heap_alloc_new _ _, hok⟩, (Below.refl _ w).alloc (Nat.le_refl _) _⟩
end Go.Proofs.YteboacjniokfpaaDoor

