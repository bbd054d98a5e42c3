/-
  The kinds' forms: a word, and fields.
-/
import Derived.Test.YtmloljjllmmkoaaDoorCmdD
import Derived.Laws.ResultCell
import Derived.Deep.MidRow
import Derived.Deep.Upon
import Derived.Lib.LazyBuf
namespace Go.Proofs.YtmloljjllmmkoaaDoor
open Go.RowKit Go

theorem results_cell_one {fn : Func} {p : Tmp} {ty : TypeId} (h : fn.results = #[.cell p ty]) (tmps : Array Value) (P : Program) (w : World) :
    (results fn tmps).run P w =
      ((asAddr (tmps.getD p undef)).run P w).andThen fun a w₁ => (loadVar ty a).run P w₁ := by
  simp only [results, h]
  simp [Sem.run_bind, Result.andThen]
/-- a form as a value -/
def formV (s : ByteArray) (g n : Nat) : Value := .agg #[.string s, .slice (some ⟨g, 0, none⟩) n n]
def fieldsObj (l : List Int) : Obj := .cells (l.map fun n => Value.int .i64 n).toArray 55
set_option maxRecDepth 100000 in
theorem row_any (s : ByteArray) (v : Value) (a : Option Addr) (n m : Nat) (hv : v = .slice a n m) (w : World) :
    Calls Tryd.prog 36 #[.string s, v] w fun e w' => e = .returned (.agg #[.string s, v]) ∧ Below w.heap.size w w' := by
  subst hv
  obtain ⟨w1, hw1⟩ : ∃ w1, w.alloc (.cells #[.string ⟨#[]⟩, .slice none 0 0] 45) = w1 := ⟨_, rfl⟩
  have hx : w1.heap[w.heap.size]? = some (.cells #[.string ⟨#[]⟩, .slice none 0 0] 45 (0, 0)) := by rw [← hw1]; exact heap_alloc_new _ _
  have hB : Below w.heap.size w w1 := by rw [← hw1]; exact (Below.refl _ w).alloc (Nat.le_refl _) _
  have f : ∀ i, w1.frozen? ⟨w.heap.size, i, none⟩ = false := fun i => by simp [World.frozen?, hx]
  have f0 := f 0
  have f1 := f 1
  have c0 : w1.cell? ⟨w.heap.size, 0, none⟩ = some (.string ⟨#[]⟩) := by simp [World.cell?, hx]
  have c1 : w1.cell? ⟨w.heap.size, 1, none⟩ = some (.slice none 0 0) := by simp [World.cell?, hx]
  obtain ⟨u, hu⟩ : ∃ u, w1.setCell ⟨w.heap.size, 0, none⟩ (.string s) = u := ⟨_, rfl⟩
  have hy : u.heap[w.heap.size]? = some (.cells #[.string s, .slice none 0 0] 45 (0, 0)) := by rw [← hu, heap_set hx]; rfl
  have d1 : u.cell? ⟨w.heap.size, 1, none⟩ = some (.slice none 0 0) := by simp [World.cell?, hy]
  have g1 : u.frozen? ⟨w.heap.size, 1, none⟩ = false := by simp [World.frozen?, hy]
  obtain ⟨z, hz⟩ : ∃ z, u.setCell ⟨w.heap.size, 1, none⟩ (.slice a n m) = z := ⟨_, rfl⟩
  have hq : z.heap[w.heap.size]? = some (.cells #[.string s, .slice a n m] 45 (0, 0)) := by rw [← hz, heap_set hy]; rfl
  have q0 : z.cell? ⟨w.heap.size, 0, none⟩ = some (.string s) := by simp [World.cell?, hq]
  have q1 : z.cell? ⟨w.heap.size, 1, none⟩ = some (.slice a n m) := by simp [World.cell?, hq]
  have HB := Lib.hid (show Below w.heap.size w z by rw [← hz, ← hu]; exact (hB.setCell (Nat.le_refl _) _).setCell (Nat.le_refl _) _)
  clear hx hy hB f hq
  go_enter Tryd.func36, Tryd.ntmps36
  go_wp2
  refine bodyPost_ret ?_ rfl ⟨rfl, HB.out⟩
  rw [results_cell_one rfl]
  go_simp
  try rfl
theorem row_new (s : ByteArray) (l : List Int) (n : Nat) (w : World) :
    Calls Tryd.prog 36 #[.string s, .slice (some ⟨w.heap.size, 0, none⟩) n n] (w.alloc (fieldsObj l)) fun e w' => ∃ g, e = .returned (formV s g n) ∧ w'.heap[g]? = some (fieldsObj l) ∧ Below w.heap.size w w' := by
  refine (row_any s _ _ n n rfl _).mono ?_
  rintro e w' ⟨rfl, hB⟩
  have h0 : (w.alloc (fieldsObj l)).heap[w.heap.size]? = some (fieldsObj l) := heap_alloc_new _ _
  exact ⟨w.heap.size, rfl, keeps_of hB h0, ((Below.refl _ w).alloc (Nat.le_refl _) _).trans (hB.mono (by simp))⟩
def formsV (g : Nat → Nat) : Value := .agg #[.string ⟨#[109, 97, 107, 101]⟩, .slice (some ⟨g 0, 0, none⟩) 1 1, .string ⟨#[100, 105, 114]⟩, .slice (some ⟨g 1, 0, none⟩) 1 1, .string ⟨#[119, 114, 105, 116, 101]⟩, .slice (some ⟨g 2, 0, none⟩) 3 3, .string ⟨#[99, 117, 116]⟩, .slice (some ⟨g 3, 0, none⟩) 2 2, .string ⟨#[108, 105, 110, 107]⟩, .slice (some ⟨g 4, 0, none⟩) 2 2, .string ⟨#[114, 101, 110, 97, 109, 101]⟩, .slice (some ⟨g 5, 0, none⟩) 2 2, .string ⟨#[114, 101, 109, 111, 118, 101]⟩, .slice (some ⟨g 6, 0, none⟩) 1 1, .string ⟨#[115, 110, 97, 112]⟩, .slice (some ⟨g 7, 0, none⟩) 1 1, .string ⟨#[117, 110, 115, 110, 97, 112]⟩, .slice (some ⟨g 8, 0, none⟩) 1 1]
/-- the fields of the kinds, in memory -/
def FormsAt (g : Nat → Nat) (w : World) : Prop := ∀ k, k < 9 → w.heap[g k]? = some (fieldsObj ((fldK k).map fldN))
theorem FormsAt.later {g : Nat → Nat} {w w' : World} (h : FormsAt g w) (hB : Below w.heap.size w w') : FormsAt g w' := fun k hk => keeps_of hB (h k hk)
def pick9 (a b c d e f g h i : Nat) : Nat → Nat
  | 0 => a | 1 => b | 2 => c | 3 => d | 4 => e | 5 => f | 6 => g | 7 => h | _ => i
set_option maxRecDepth 100000 in
set_option maxHeartbeats 8000000 in
theorem forms_any (w : World) : Calls Tryd.prog 23 #[] w fun e w' => ∃ g, e = .returned (formsV g) ∧ FormsAt g w' ∧ Below w.heap.size w w' := by
  obtain ⟨w0, hw0⟩ : ∃ w0, w.alloc (.cells #[.string ⟨#[]⟩, .slice none 0 0, .string ⟨#[]⟩, .slice none 0 0, .string ⟨#[]⟩, .slice none 0 0, .string ⟨#[]⟩, .slice none 0 0, .string ⟨#[]⟩, .slice none 0 0, .string ⟨#[]⟩, .slice none 0 0, .string ⟨#[]⟩, .slice none 0 0, .string ⟨#[]⟩, .slice none 0 0, .string ⟨#[]⟩, .slice none 0 0] 46) = w0 := ⟨_, rfl⟩
  have hx0 : w0.heap[w.heap.size]? = some (.cells #[.string ⟨#[]⟩, .slice none 0 0, .string ⟨#[]⟩, .slice none 0 0, .string ⟨#[]⟩, .slice none 0 0, .string ⟨#[]⟩, .slice none 0 0, .string ⟨#[]⟩, .slice none 0 0, .string ⟨#[]⟩, .slice none 0 0, .string ⟨#[]⟩, .slice none 0 0, .string ⟨#[]⟩, .slice none 0 0, .string ⟨#[]⟩, .slice none 0 0] 46 (0, 0)) := by rw [← hw0]; exact heap_alloc_new _ _
  have HX0 := Lib.hid hx0
  have HB0 := Lib.hid (show Below w.heap.size w w0 by rw [← hw0]; exact (Below.refl _ w).alloc (Nat.le_refl _) _)
  clear hx0
  have CR0 := fun W => row_new ⟨#[109, 97, 107, 101]⟩ [0] 1 W
  have CR1 := fun W => row_new ⟨#[100, 105, 114]⟩ [0] 1 W
  have CR2 := fun W => row_new ⟨#[119, 114, 105, 116, 101]⟩ [0, 3, 4] 3 W
  have CR3 := fun W => row_new ⟨#[99, 117, 116]⟩ [0, 3] 2 W
  have CR4 := fun W => row_new ⟨#[108, 105, 110, 107]⟩ [0, 2] 2 W
  have CR5 := fun W => row_new ⟨#[114, 101, 110, 97, 109, 101]⟩ [0, 2] 2 W
  have CR6 := fun W => row_new ⟨#[114, 101, 109, 111, 118, 101]⟩ [0] 1 W
  have CR7 := fun W => row_new ⟨#[115, 110, 97, 112]⟩ [1] 1 W
  have CR8 := fun W => row_new ⟨#[117, 110, 115, 110, 97, 112]⟩ [1] 1 W
  unfold fieldsObj formV at CR0 CR1 CR2 CR3 CR4 CR5 CR6 CR7 CR8
  simp only [List.map_cons, List.map_nil] at CR0 CR1 CR2 CR3 CR4 CR5 CR6 CR7 CR8
  go_enter Tryd.func23, Tryd.ntmps23
  go_wp2_with fail
  refine (CR0 w0).mono ?_
  rintro e w1 ⟨g0, rfl, q0, hB1⟩
  have HX1 := Lib.hid (keeps_of hB1 HX0.out)
  have HB1 := Lib.hid (HB0.out.trans (hB1.mono HB0.out.size))
  clear hB1 CR0
  go_wp2_with fail
  refine (CR1 w1).mono ?_
  rintro e w2 ⟨g1, rfl, q1, hB2⟩
  have HX2 := Lib.hid (keeps_of hB2 HX1.out)
  have HB2 := Lib.hid (HB1.out.trans (hB2.mono HB1.out.size))
  have p0 := keeps_of hB2 q0
  clear q0
  have q0 := p0
  clear p0
  clear hB2 CR1
  go_wp2_with fail
  refine (CR2 w2).mono ?_
  rintro e w3 ⟨g2, rfl, q2, hB3⟩
  have HX3 := Lib.hid (keeps_of hB3 HX2.out)
  have HB3 := Lib.hid (HB2.out.trans (hB3.mono HB2.out.size))
  have p0 := keeps_of hB3 q0
  clear q0
  have q0 := p0
  clear p0
  have p1 := keeps_of hB3 q1
  clear q1
  have q1 := p1
  clear p1
  clear hB3 CR2
  go_wp2_with fail
  refine (CR3 w3).mono ?_
  rintro e w4 ⟨g3, rfl, q3, hB4⟩
  have HX4 := Lib.hid (keeps_of hB4 HX3.out)
  have HB4 := Lib.hid (HB3.out.trans (hB4.mono HB3.out.size))
  have p0 := keeps_of hB4 q0
  clear q0
  have q0 := p0
  clear p0
  have p1 := keeps_of hB4 q1
  clear q1
  have q1 := p1
  clear p1
  have p2 := keeps_of hB4 q2
  clear q2
  have q2 := p2
  clear p2
  clear hB4 CR3
  go_wp2_with fail
  refine (CR4 w4).mono ?_
  rintro e w5 ⟨g4, rfl, q4, hB5⟩
  have HX5 := Lib.hid (keeps_of hB5 HX4.out)
  have HB5 := Lib.hid (HB4.out.trans (hB5.mono HB4.out.size))
  have p0 := keeps_of hB5 q0
  clear q0
  have q0 := p0
  clear p0
  have p1 := keeps_of hB5 q1
  clear q1
  have q1 := p1
  clear p1
  have p2 := keeps_of hB5 q2
  clear q2
  have q2 := p2
  clear p2
  have p3 := keeps_of hB5 q3
  clear q3
  have q3 := p3
  clear p3
  clear hB5 CR4
  go_wp2_with fail
  refine (CR5 w5).mono ?_
  rintro e w6 ⟨g5, rfl, q5, hB6⟩
  have HX6 := Lib.hid (keeps_of hB6 HX5.out)
  have HB6 := Lib.hid (HB5.out.trans (hB6.mono HB5.out.size))
  have p0 := keeps_of hB6 q0
  clear q0
  have q0 := p0
  clear p0
  have p1 := keeps_of hB6 q1
  clear q1
  have q1 := p1
  clear p1
  have p2 := keeps_of hB6 q2
  clear q2
  have q2 := p2
  clear p2
  have p3 := keeps_of hB6 q3
  clear q3
  have q3 := p3
  clear p3
  have p4 := keeps_of hB6 q4
  clear q4
  have q4 := p4
  clear p4
  clear hB6 CR5
  go_wp2_with fail
  refine (CR6 w6).mono ?_
  rintro e w7 ⟨g6, rfl, q6, hB7⟩
  have HX7 := Lib.hid (keeps_of hB7 HX6.out)
  have HB7 := Lib.hid (HB6.out.trans (hB7.mono HB6.out.size))
  have p0 := keeps_of hB7 q0
  clear q0
  have q0 := p0
  clear p0
  have p1 := keeps_of hB7 q1
  clear q1
  have q1 := p1
  clear p1
  have p2 := keeps_of hB7 q2
  clear q2
  have q2 := p2
  clear p2
  have p3 := keeps_of hB7 q3
  clear q3
  have q3 := p3
  clear p3
  have p4 := keeps_of hB7 q4
  clear q4
  have q4 := p4
  clear p4
  have p5 := keeps_of hB7 q5
  clear q5
  have q5 := p5
  clear p5
  clear hB7 CR6
  go_wp2_with fail
  refine (CR7 w7).mono ?_
  rintro e w8 ⟨g7, rfl, q7, hB8⟩
  have HX8 := Lib.hid (keeps_of hB8 HX7.out)
  have HB8 := Lib.hid (HB7.out.trans (hB8.mono HB7.out.size))
  have p0 := keeps_of hB8 q0
  clear q0
  have q0 := p0
  clear p0
  have p1 := keeps_of hB8 q1
  clear q1
  have q1 := p1
  clear p1
  have p2 := keeps_of hB8 q2
  clear q2
  have q2 := p2
  clear p2
  have p3 := keeps_of hB8 q3
  clear q3
  have q3 := p3
  clear p3
  have p4 := keeps_of hB8 q4
  clear q4
  have q4 := p4
  clear p4
  have p5 := keeps_of hB8 q5
  clear q5
  have q5 := p5
  clear p5
  have p6 := keeps_of hB8 q6
  clear q6
  have q6 := p6
  clear p6
  clear hB8 CR7
  go_wp2_with fail
  refine (CR8 w8).mono ?_
  rintro e w9 ⟨g8, rfl, q8, hB9⟩
  have HX9 := Lib.hid (keeps_of hB9 HX8.out)
  have HB9 := Lib.hid (HB8.out.trans (hB9.mono HB8.out.size))
  have p0 := keeps_of hB9 q0
  clear q0
  have q0 := p0
  clear p0
  have p1 := keeps_of hB9 q1
  clear q1
  have q1 := p1
  clear p1
  have p2 := keeps_of hB9 q2
  clear q2
  have q2 := p2
  clear p2
  have p3 := keeps_of hB9 q3
  clear q3
  have q3 := p3
  clear p3
  have p4 := keeps_of hB9 q4
  clear q4
  have q4 := p4
  clear p4
  have p5 := keeps_of hB9 q5
  clear q5
  have q5 := p5
  clear p5
  have p6 := keeps_of hB9 q6
  clear q6
  have q6 := p6
  clear p6
  have p7 := keeps_of hB9 q7
  clear q7
  have q7 := p7
  clear p7
  clear hB9 CR8
  have HQ := Lib.hid (show FormsAt (pick9 g0 g1 g2 g3 g4 g5 g6 g7 g8) w9 from fun k hk => by
    rcases below9 hk with rfl | rfl | rfl | rfl | rfl | rfl | rfl | rfl | rfl <;> assumption)
  clear q0 q1 q2 q3 q4 q5 q6 q7 q8
  obtain ⟨C, hC⟩ : ∃ C : Array Value, #[.string ⟨#[109, 97, 107, 101]⟩, .slice (some ⟨g0, 0, none⟩) 1 1, .string ⟨#[100, 105, 114]⟩, .slice (some ⟨g1, 0, none⟩) 1 1, .string ⟨#[119, 114, 105, 116, 101]⟩, .slice (some ⟨g2, 0, none⟩) 3 3, .string ⟨#[99, 117, 116]⟩, .slice (some ⟨g3, 0, none⟩) 2 2, .string ⟨#[108, 105, 110, 107]⟩, .slice (some ⟨g4, 0, none⟩) 2 2, .string ⟨#[114, 101, 110, 97, 109, 101]⟩, .slice (some ⟨g5, 0, none⟩) 2 2, .string ⟨#[114, 101, 109, 111, 118, 101]⟩, .slice (some ⟨g6, 0, none⟩) 1 1, .string ⟨#[115, 110, 97, 112]⟩, .slice (some ⟨g7, 0, none⟩) 1 1, .string ⟨#[117, 110, 115, 110, 97, 112]⟩, .slice (some ⟨g8, 0, none⟩) 1 1] = C := ⟨_, rfl⟩
  have hCs : C.size = 18 := by rw [← hC]; rfl
  have hth : w9.there w.heap.size 0 C.size := fun j hj => by
    rw [hCs] at hj
    have h9 := HX9.out
    refine ⟨?_, by simp [World.frozen?, h9]⟩
    simp only [World.cell?, h9, Nat.zero_add]
    rw [Array.getElem?_eq_getElem (by simpa using hj)]
    rfl
  have hi : (Tryd.prog.info? 46).map (·.size) = some C.size := by rw [hCs]; kernel_rfl
  have h1 : C.all (·.oneCell') = true := by rw [← hC]; simp [Value.oneCell']
  obtain ⟨U, hU⟩ : ∃ U, w9.setCells w.heap.size 0 C.toList = U := ⟨_, rfl⟩
  have hld : (loadVar 46 ⟨w.heap.size, 0, none⟩).run Tryd.prog U = .ok (.agg C) U := by
    have h := run_loadVar_mid (P := Tryd.prog) U w.heap.size 0 46 C.toList _ (by rw [← hU]; exact World.rangeAt_setCells_same w9 w.heap.size 0 C.toList (by simpa using hth)) Tryd.underlying46 rfl (by rw [hi]; simp)
    simpa using h
  have HL := Lib.hid hld
  have HBU := Lib.hid (show Below w.heap.size w U by rw [← hU]; exact below_setCells (Nat.le_refl _) _ _ _ HB9.out)
  have HQU := Lib.hid (show FormsAt (pick9 g0 g1 g2 g3 g4 g5 g6 g7 g8) U from fun k hk => by
    have h9 := HQ.out k hk
    have hne : pick9 g0 g1 g2 g3 g4 g5 g6 g7 g8 k ≠ w.heap.size := fun e => by
      have := HX9.out
      rw [← e, h9] at this
      simp [fieldsObj] at this
    rw [← hU, World.heap_setCells_other _ _ _ _ (lt_of_heap h9) hne]
    exact h9)
  have HF := Lib.hid (show formsV (pick9 g0 g1 g2 g3 g4 g5 g6 g7 g8) = .agg C by rw [← hC]; rfl)
  have HU := Lib.hid hU
  clear hld HQ hU hCs
  go_wp2_with (first | (refine wpList_store_mid rfl 46 (.tmp 0) (.tmp 19) rfl w.heap.size 0 C (by rfl) (by first | exact congrArg Value.agg hC | rfl) hth hi h1 ?_; rw [HU.out]))
  refine bodyPost_ret ?_ rfl ⟨pick9 g0 g1 g2 g3 g4 g5 g6 g7 g8, congrArg Ending.returned HF.out.symm, HQU.out, HBU.out⟩
  rw [results_cell_one rfl]
  exact HL.out
end Go.Proofs.YtmloljjllmmkoaaDoor

