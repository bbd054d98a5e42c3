/-
  The reference's pipe: Send, Take, Close.
-/
import Derived.Test.YtmlemgifejefiaaKitI
import Derived.OwnWalk
import Derived.RegionTactic
import Derived.BigRegion
import Derived.Laws.OwnMore
import Derived.Laws.AppendOwnNone
import Derived.Deep.AppendLies
namespace Go.Proofs.Ytmlemgifejefiaa
open Go.RowKit Go

theorem infoInt : (Try.prog.info? 3).map (fun i => (i.zero, i.size, i.bytes)) = some (some (.int .i64 0), 1, 8) := by kernel_rfl
def RObj (room : Nat) (v : Value) (closed : Bool) : Obj := .cells #[.int .i64 room, v, .bool closed] 38 (0, 0)
section
variable {w : World} {m room : Nat} {v : Value} {closed : Bool}
theorem RObj.c0 (h : w.heap[m]? = some (RObj room v closed)) : w.cell? ⟨m, 0, none⟩ = some (.int .i64 room) := by simp [World.cell?, h, RObj]
theorem RObj.c1 (h : w.heap[m]? = some (RObj room v closed)) : w.cell? ⟨m, 1, none⟩ = some v := by simp [World.cell?, h, RObj]
theorem RObj.c2 (h : w.heap[m]? = some (RObj room v closed)) : w.cell? ⟨m, 2, none⟩ = some (.bool closed) := by simp [World.cell?, h, RObj]
theorem RObj.fr (h : w.heap[m]? = some (RObj room v closed)) (i : Nat) : w.frozen? ⟨m, i, none⟩ = false := by simp [World.frozen?, h, RObj]
theorem RObj.set1 (h : w.heap[m]? = some (RObj room v closed)) (u : Value) : (w.setCell ⟨m, 1, none⟩ u).heap[m]? = some (RObj room u closed) := by rw [heap_set h]; rfl
theorem RObj.set2 (h : w.heap[m]? = some (RObj room v closed)) (u : Bool) : (w.setCell ⟨m, 2, none⟩ (.bool u)).heap[m]? = some (RObj room v u) := by rw [heap_set h]; rfl
end
theorem ownsRow_of_block {w w' : World} {base : Nat} {e : TypeId} {size : Nat} {v : Value} {n : Nat} {xs : List Value} (h : w.ownsRow base e size v n xs) (hk : ∀ k, v.ownBlock = some k → w'.heap[k]? = w.heap[k]?) : w'.ownsRow base e size v n xs := by
  refine ⟨h.1, ?_⟩
  rcases h.2 with h1 | ⟨g, cap, cur, rfl, h2, h3, h4⟩
  · exact Or.inl h1
  · exact Or.inr ⟨g, cap, cur, rfl, h2, (hk g rfl).trans h3, h4⟩
theorem ownsRow_low {w : World} {base base' : Nat} {e : TypeId} {size : Nat} {v : Value} {n : Nat} {xs : List Value} (h : w.ownsRow base e size v n xs) (hb : base' ≤ base) : w.ownsRow base' e size v n xs := by
  refine ⟨h.1, ?_⟩
  rcases h.2 with h1 | ⟨g, cap, cur, rfl, h2, h3⟩
  · exact Or.inl h1
  · exact Or.inr ⟨g, cap, cur, rfl, Nat.le_trans hb h2, h3⟩
theorem row_shape {w : World} {base : Nat} {e : TypeId} {size : Nat} {v : Value} {n : Nat} {xs : List Value} (h : w.ownsRow base e size v n xs) : ∃ a cap, v = .slice a n cap := by
  rcases h.2 with ⟨rfl, h0⟩ | ⟨g, cap, cur, rfl, _⟩
  · exact ⟨none, 0, by rw [h0]⟩
  · exact ⟨_, _, rfl⟩

/-- what a call of the reference leaves at m: its list's new place -/
def RPut (m room : Nat) (closed : Bool) (n : Nat) (xs : List Value) (w w' : World) : Prop :=
  ∃ v, w'.heap[m]? = some (RObj room v closed) ∧ w'.ownsRow w.heap.size 3 1 v n xs ∧ Stir (fun k => k = m) w w'
theorem RPut.mk' {m room : Nat} {closed : Bool} {n : Nat} {xs : List Value} {w w1 : World} {v v0 : Value} (h : w.heap[m]? = some (RObj room v0 closed)) (hB : Below w.heap.size w w1) (hr : w1.ownsRow w.heap.size 3 1 v n xs) :
    RPut m room closed n xs w (w1.setCell ⟨m, 1, none⟩ v) :=
  ⟨v, RObj.set1 (keeps_of hB h) v, ownsRow_of_block hr (fun k hk => Below.heap_setCell _ _ _ _ (by rintro rfl; have := (hr.lt _ hk).1; have := lt_of_heap h; omega)), (Stir.of_below (F := fun k => k = m) hB).set (Or.inl rfl) _⟩

section
variable {w : World} {m room : Nat}
set_option maxRecDepth 100000 in
set_option maxHeartbeats 1000000 in
theorem rsend_nil (h : w.heap[m]? = some (RObj room (.slice none 0 0) false)) (hr : 0 < room) (x : Int) :
    Calls Try.prog 13 #[.pointer (some ⟨m, 0, none⟩), .int .i64 x] w fun e w' => e = .returned (.bool true) ∧ RPut m room false 1 [.int .i64 x] w w' := by
  obtain ⟨i0, hi0, hz0, hz1, hz2⟩ := info_parts infoInt
  have c0 := RObj.c0 h
  have c1 := RObj.c1 h
  have c2 := RObj.c2 h
  have hB0 : Below w.heap.size w (w.alloc (.cells #[] 3)).drew := ((Below.refl _ w).alloc (Nat.le_refl _) _).drew
  have c1a := RObj.c1 (keeps_of ((Below.refl _ w).alloc (Nat.le_refl _) (.cells #[] 3)) h)
  have O0 := Lib.hid (show (w.alloc (.cells #[] 3)).drew.ownsRow w.heap.size 3 1 (.slice (some ⟨w.heap.size, 0, none⟩) 0 0) 0 [] from World.ownsRow_made (e := 3) (size := 1) w.drew #[] 0 (Nat.le_refl _) (by decide) rfl)
  have H := Lib.hid h
  have HB0 := Lib.hid hB0
  have hr0 : ¬ room = 0 := by omega
  have HN := Lib.hid (show ∀ (j : Nat) (u : Value), [Value.int .i64 x][j]? = some u → ((w.alloc (.cells #[] 3)).alloc (.cells #[.int .i64 x] 3)).drew.cell? ((⟨w.heap.size + 1, 0, none⟩ : Addr).add j) = some u by
    have := cell_one_new (w.alloc (.cells #[] 3)) (.int .i64 x) 3
    rw [World.size_alloc] at this
    exact this)
  clear h hB0 hr
  go_enter Try.func13, Try.ntmps13
  go_wp2_with fail
  go_region
  all_goals (
    go_wp2_with (at_builtin; first
      | (refine wpList_append_own_none rfl _ _ 29 rfl w.heap.size 3 i0 1 Try.underlying29 hi0 _ 0 _ rfl O0.out rfl ?_
         obtain ⟨v0, hv0⟩ : ∃ v0, Value.slice (some ⟨w.heap.size, 0, none⟩) 0 0 = v0 := ⟨_, rfl⟩
         have O1 := O0.out
         rw [hv0] at O1
         have O2 := Lib.hid O1
         simp only [hv0]
         clear O1 hv0 O0)
      | ((refine wpList_append_own _ rfl _ _ 29 rfl w.heap.size 3 i0 (.int .i64 0) 1 8 Try.underlying29 hi0 hz0 hz1 hz2 rfl (by decide) _ 0 _ rfl (O2.out.alloc _) ⟨w.heap.size + 1, 0, none⟩ 1 1 [.int .i64 x] rfl rfl HN.out (by simp [Value.oneCell']) (by unfold maxLen; omega) (by omega) (by simp; omega) ?_)
         intro v' w1 hown' hgrow _
         have hB1 : Below w.heap.size w w1 := HB0.out.trans (((Below.refl _ _).alloc (by simp) _).grown hgrow (by simp; omega) (fun j ej => (O2.out.lt j ej).1))
         obtain ⟨a', cap', rfl⟩ := row_shape hown'
         have ho := keeps_of hB1 H.out
         have d1 := RObj.c1 ho
         have f1 := RObj.fr ho 1
         have HO := Lib.hid hown'
         have HB1 := Lib.hid hB1
         clear hown' hgrow hB1 ho))
    go_ret
    exact ⟨rfl, RPut.mk' H.out HB1.out HO.out⟩)

theorem news_of_cut {w : World} {g : Nat} {cur : Array Value} {t : TypeId} {fr : Nat × Nat} (hg : w.heap[g]? = some (.cells cur t fr)) (a b : Nat) : ∀ j u, ((cur.toList.drop a).take b)[j]? = some u → w.cell? ((⟨g, a, none⟩ : Addr).add j) = some u := by
  intro j u hu
  have hj : j < b := by
    rcases Nat.lt_or_ge j b with h | h
    · exact h
    · rw [List.getElem?_eq_none (by simp; omega)] at hu; cases hu
  rw [List.getElem?_take_of_lt hj, List.getElem?_drop] at hu
  rw [Addr.add_lit]
  simp only [World.cell?, hg]
  simpa using hu

set_option maxRecDepth 100000 in
set_option maxHeartbeats 1000000 in
theorem rsend_some {g n cap : Nat} {cur : Array Value} {xs : List Value} (h : w.heap[m]? = some (RObj room (.slice (some ⟨g, 0, none⟩) n cap) false)) (hg : w.heap[g]? = some (.cells cur 3 (0, 0))) (hxs : cur.toList.take n = xs) (hxl : xs.length = n)
    (h1 : ∀ u ∈ xs, u.oneCell' = true) (hr : n < room) (hr2 : room ≤ 4096) (x : Int) :
    Calls Try.prog 13 #[.pointer (some ⟨m, 0, none⟩), .int .i64 x] w fun e w' => e = .returned (.bool true) ∧ RPut m room false (n + 1) (xs ++ [.int .i64 x]) w w' := by
  obtain ⟨i0, hi0, hz0, hz1, hz2⟩ := info_parts infoInt
  have c0 := RObj.c0 h
  have c1 := RObj.c1 h
  have c2 := RObj.c2 h
  have hB0 : Below w.heap.size w (w.alloc (.cells #[] 3)).drew := ((Below.refl _ w).alloc (Nat.le_refl _) _).drew
  have c1a := RObj.c1 (keeps_of ((Below.refl _ w).alloc (Nat.le_refl _) (.cells #[] 3)) h)
  have O0 := Lib.hid (show (w.alloc (.cells #[] 3)).drew.ownsRow w.heap.size 3 1 (.slice (some ⟨w.heap.size, 0, none⟩) 0 0) 0 [] from World.ownsRow_made (e := 3) (size := 1) w.drew #[] 0 (Nat.le_refl _) (by decide) rfl)
  have N0 := Lib.hid (show ∀ (j : Nat) (u : Value), xs[j]? = some u → (w.alloc (.cells #[] 3)).drew.cell? ((⟨g, 0, none⟩ : Addr).add j) = some u by
    have := news_of_cut (keeps_of hB0 hg) 0 n
    rw [List.drop_zero, hxs] at this
    exact this)
  have H := Lib.hid h
  have HB0 := Lib.hid hB0
  have H1 := Lib.hid h1
  have HX := Lib.hid hxl
  have hri : (n : Int) < (room : Int) := by omega
  have hr0 : ¬ room ≤ n := by omega
  have HR := Lib.hid hr2
  clear h hB0 hr hg hxs hxl h1 hr2
  go_enter Try.func13, Try.ntmps13
  go_wp2_with fail
  go_region
  all_goals (
    go_wp2_with (at_builtin; first
      | ((refine wpList_append_own _ rfl _ _ 29 rfl w.heap.size 3 i0 (.int .i64 0) 1 8 Try.underlying29 hi0 hz0 hz1 hz2 rfl (by decide) _ 0 _ rfl O0.out ⟨g, 0, none⟩ n cap xs rfl (by rw [HX.out]; omega) N0.out H1.out (by have := HR.out; unfold maxLen; omega) (by have := HR.out; omega) (by simp) ?_)
         intro v0 w1 hown' hgrow _
         have hB1 : Below w.heap.size w w1 := HB0.out.grown hgrow (Nat.le_of_lt (by simp)) (fun j ej => (O0.out.lt j ej).1)
         have ho := keeps_of hB1 H.out
         have O2 := Lib.hid hown'
         have HB1 := Lib.hid hB1
         have hsz := hB1.size
         clear hown' hgrow hB1 O0 HB0 N0)
      | ((refine wpList_append_own _ rfl _ _ 29 rfl w.heap.size 3 i0 (.int .i64 0) 1 8 Try.underlying29 hi0 hz0 hz1 hz2 rfl (by decide) _ (0 + n) _ rfl (O2.out.alloc _) ⟨w1.heap.size, 0, none⟩ 1 1 [.int .i64 x] rfl rfl (cell_one_new _ _ _) (by simp [Value.oneCell']) (by have := HR.out; unfold maxLen; omega) (by have := HR.out; omega) (by simp; omega) ?_)
         intro v' w2 hown' hgrow _
         have hB2 : Below w.heap.size w w2 := HB1.out.trans (((Below.refl _ _).alloc hsz _).grown hgrow (by simp; omega) (fun j ej => (O2.out.lt j ej).1))
         obtain ⟨a', cap', rfl⟩ := row_shape hown'
         have ho := keeps_of hB2 H.out
         have d1 := RObj.c1 ho
         have f1 := RObj.fr ho 1
         have HO := Lib.hid hown'
         have HB2 := Lib.hid hB2
         clear hown' hgrow hB2 ho))
    go_ret
    refine ⟨rfl, ?_⟩
    have := RPut.mk' H.out HB2.out HO.out
    simpa using this)

theorem rsend_shut {v : Value} (h : w.heap[m]? = some (RObj room v true)) (x : Int) :
    Calls Try.prog 13 #[.pointer (some ⟨m, 0, none⟩), .int .i64 x] w fun e w' => e = .returned (.bool false) ∧ Below w.heap.size w w' := by
  have c2 := RObj.c2 h
  clear h
  go_enter Try.func13, Try.ntmps13
  go_wp2_with fail
  go_region
  all_goals (go_wp2_with fail; go_ret; exact ⟨rfl, (Below.refl _ w).drew⟩)
theorem rsend_full {a : Option Addr} {n cap : Nat} {closed : Bool} (h : w.heap[m]? = some (RObj room (.slice a n cap) closed)) (hn : room ≤ n) (x : Int) :
    Calls Try.prog 13 #[.pointer (some ⟨m, 0, none⟩), .int .i64 x] w fun e w' => e = .returned (.bool false) ∧ Below w.heap.size w w' := by
  cases closed with
  | true => exact rsend_shut h x
  | false =>
    have c0 := RObj.c0 h
    have c1 := RObj.c1 h
    have c2 := RObj.c2 h
    have hni : (room : Int) ≤ (n : Int) := by omega
    clear h
    go_enter Try.func13, Try.ntmps13
    go_wp2_with fail
    go_region
    all_goals (go_wp2_with fail; go_ret; exact ⟨rfl, (Below.refl _ w).drew⟩)
theorem rtake_none {a : Option Addr} {cap : Nat} {closed : Bool} (h : w.heap[m]? = some (RObj room (.slice a 0 cap) closed)) :
    Calls Try.prog 15 #[.pointer (some ⟨m, 0, none⟩)] w fun e w' => e = .returned (.tuple #[.int .i64 0, .bool false]) ∧ w' = w := by
  have c1 := RObj.c1 h
  clear h
  go_enter Try.func15, Try.ntmps15
  go_wp2_with fail
  go_ret2
  exact ⟨rfl, rfl⟩
theorem rclose_any {v : Value} {closed : Bool} (h : w.heap[m]? = some (RObj room v closed)) :
    Calls Try.prog 17 #[.pointer (some ⟨m, 0, none⟩)] w fun e w' => e = .returned (.bool (!closed)) ∧ w'.heap[m]? = some (RObj room v true) ∧ Stir (fun k => k = m) w w' := by
  have c2 := RObj.c2 h
  have f2 := RObj.fr h 2
  have H := Lib.hid h
  clear h
  go_enter Try.func17, Try.ntmps17
  go_wp2_with fail
  go_ret
  exact ⟨rfl, RObj.set2 H.out true, (Stir.refl (fun k => k = m) w).set (Or.inl rfl) _⟩

set_option maxRecDepth 100000 in
set_option maxHeartbeats 1000000 in
theorem rtake_some {g n cap : Nat} {cur : Array Value} {closed : Bool} {x : Int} {xs : List Value} (h : w.heap[m]? = some (RObj room (.slice (some ⟨g, 0, none⟩) (n + 1) cap) closed)) (hg : w.heap[g]? = some (.cells cur 3 (0, 0)))
    (hxs : cur.toList.take (n + 1) = .int .i64 x :: xs) (hxl : xs.length = n) (hcap : n + 1 ≤ cap) (h1 : ∀ u ∈ xs, u.oneCell' = true) (hn : n ≤ 4096) :
    Calls Try.prog 15 #[.pointer (some ⟨m, 0, none⟩)] w fun e w' => e = .returned (.tuple #[.int .i64 x, .bool true]) ∧ RPut m room closed n xs w w' := by
  obtain ⟨i0, hi0, hz0, hz1, hz2⟩ := info_parts infoInt
  have c1 := RObj.c1 h
  have cg : w.cell? ⟨g, 0, none⟩ = some (.int .i64 x) := by
    have := news_of_cut hg 0 (n + 1) 0 (.int .i64 x) (by rw [List.drop_zero, hxs]; rfl)
    simpa [Addr.add] using this
  have hB0 : Below w.heap.size w (w.alloc (.cells #[] 3)) := (Below.refl _ w).alloc (Nat.le_refl _) _
  have c1a := RObj.c1 (keeps_of hB0 h)
  have O0 := Lib.hid (show (w.alloc (.cells #[] 3)).ownsRow w.heap.size 3 1 (.slice (some ⟨w.heap.size, 0, none⟩) 0 0) 0 [] from World.ownsRow_made (e := 3) (size := 1) w #[] 0 (Nat.le_refl _) (by decide) rfl)
  obtain ⟨o, ho⟩ : ∃ o, (if cap = 1 then 0 else 1) = o := ⟨_, rfl⟩
  have hsl : (if cap = 1 then some (⟨g, 0, none⟩ : Addr) else some ⟨g, 1, none⟩) = some ⟨g, o, none⟩ := by
    rw [← ho]
    split <;> rfl
  have N0 := Lib.hid (show ∀ (j : Nat) (u : Value), xs[j]? = some u → (w.alloc (.cells #[] 3)).cell? ((⟨g, o, none⟩ : Addr).add j) = some u by
    by_cases hc : cap = 1
    · have : xs = [] := List.eq_nil_of_length_eq_zero (by omega)
      rw [this]; simp
    · rw [if_neg hc] at ho
      have := news_of_cut (keeps_of hB0 hg) 1 n
      have e : (cur.toList.drop 1).take n = xs := by
        have := congrArg (List.drop 1) hxs
        rw [List.drop_take] at this
        simpa using this
      rw [e, ho] at this
      exact this)
  have H := Lib.hid h
  have HB0 := Lib.hid hB0
  have H1 := Lib.hid h1
  have HX := Lib.hid hxl
  have HC := Lib.hid hcap
  have hni : ((n : Int) + 1 == 0) = false := by simp; omega
  have hnp : (0 : Int) < (n : Int) + 1 := by omega
  have hn1 : (n + 1 == 0) = false := by simp
  have hci : (1 : Int) ≤ (n : Int) + 1 := by omega
  clear h hB0 hg hxs hxl h1 ho hcap
  go_enter Try.func15, Try.ntmps15
  go_wp2_with (at_builtin
               (refine wpList_append_own _ rfl _ _ 29 rfl w.heap.size 3 i0 (.int .i64 0) 1 8 Try.underlying29 hi0 hz0 hz1 hz2 rfl (by decide) _ 0 _ rfl O0.out ⟨g, o, none⟩ n (cap - 1) xs rfl (by rw [HX.out]; omega) N0.out H1.out (by unfold maxLen; omega) (by omega) (by simp) ?_)
               intro v0 w1 hown' hgrow _
               have hB1 : Below w.heap.size w w1 := HB0.out.grown hgrow (Nat.le_of_lt (by simp)) (fun j ej => (O0.out.lt j ej).1)
               obtain ⟨a', cap', rfl⟩ := row_shape hown'
               have ho := keeps_of hB1 H.out
               have d1 := RObj.c1 ho
               have f1 := RObj.fr ho 1
               have HO := Lib.hid hown'
               have HB1 := Lib.hid hB1
               clear hown' hgrow hB1 ho)
  go_ret2
  refine ⟨rfl, ?_⟩
  have := RPut.mk' H.out HB1.out HO.out
  simpa using this
end
end Go.Proofs.Ytmlemgifejefiaa
