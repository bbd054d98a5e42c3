/-
  The reference: its list of things; where a key stands.
-/
import Derived.Test.YtipnbggbejkhkaaCacIE
import Derived.Deep.AppendLies
import Derived.Deep.RegionHeld3
import Derived.Laws.OwnMore
namespace Go.Proofs.Ytipnbggbejkhkaa
open Go.RowKit Go

/-- things, in cells -/
def thingCells : List (Int × ByteArray) → List Value
  | [] => []
  | x :: L => .int .i64 x.1 :: .string x.2 :: thingCells L
theorem thingCells_len : ∀ L, (thingCells L).length = L.length * 2
  | [] => rfl
  | x :: L => by simp only [thingCells, List.length_cons, thingCells_len L]; omega
theorem thingCells_append : ∀ A B, thingCells (A ++ B) = thingCells A ++ thingCells B
  | [], B => rfl
  | x :: A, B => by simp only [List.cons_append, thingCells, thingCells_append A B]
theorem thingCells_take : ∀ L i, thingCells (L.take i) = (thingCells L).take (i * 2)
  | L, 0 => by simp [thingCells]
  | [], i + 1 => by simp [thingCells]
  | x :: L, i + 1 => by rw [show (i + 1) * 2 = i * 2 + 1 + 1 by omega]; simp only [List.take_succ_cons, thingCells, thingCells_take L i]
theorem thingCells_drop : ∀ L i, thingCells (L.drop i) = (thingCells L).drop (i * 2)
  | L, 0 => by simp
  | [], i + 1 => by simp [thingCells]
  | x :: L, i + 1 => by rw [show (i + 1) * 2 = i * 2 + 1 + 1 by omega]; simp only [List.drop_succ_cons, thingCells, thingCells_drop L i]
theorem thingCells_at : ∀ (L : List (Int × ByteArray)) (i : Nat) (h : i < L.length), (thingCells L)[i * 2]? = some (.int .i64 L[i].1) ∧ (thingCells L)[i * 2 + 1]? = some (.string L[i].2)
  | x :: L, 0, _ => ⟨rfl, rfl⟩
  | x :: L, i + 1, h => by
    have := thingCells_at L i (by simpa using h)
    rw [show (i + 1) * 2 = i * 2 + 1 + 1 by omega]
    simpa [thingCells] using this
theorem thingCells_one : ∀ (L : List (Int × ByteArray)), ∀ u ∈ thingCells L, u.oneCell' = true
  | x :: L, u, h => by
    simp only [thingCells, List.mem_cons] at h
    rcases h with rfl | rfl | h
    · rfl
    · rfl
    · exact thingCells_one L u h

/-- the reference, in memory -/
def RefObj (room : Nat) (v : Value) : Obj := .cells #[.int .i64 room, v] 34 (0, 0)
section
variable {w : World} {b room : Nat} {v : Value}
theorem RefObj.c0 (h : w.heap[b]? = some (RefObj room v)) : w.cell? ⟨b, 0, none⟩ = some (.int .i64 room) := by simp [World.cell?, h, RefObj]
theorem RefObj.c1 (h : w.heap[b]? = some (RefObj room v)) : w.cell? ⟨b, 1, none⟩ = some v := by simp [World.cell?, h, RefObj]
theorem RefObj.fr (h : w.heap[b]? = some (RefObj room v)) (i : Nat) : w.frozen? ⟨b, i, none⟩ = false := by simp [World.frozen?, h, RefObj]
theorem RefObj.set1 (h : w.heap[b]? = some (RefObj room v)) (u : Value) : (w.setCell ⟨b, 1, none⟩ u).heap[b]? = some (RefObj room u) := by rw [heap_set h]; rfl
end

/-- the reference with its list; G: the blocks that are its own -/
structure RefAt (B : Nat) (G : Nat → Prop) (m room : Nat) (v : Value) (L : List (Int × ByteArray)) (w : World) : Prop where
  obj : w.heap[m]? = some (RefObj room v)
  row : w.ownsRow B 64 2 v L.length (thingCells L)
  own : ∀ k, G k ↔ k = m ∨ v.ownBlock = some k
  apart : v.ownBlock ≠ some m
  low : B ≤ m

section
variable {w w' : World} {B m room : Nat} {G : Nat → Prop} {v : Value} {L : List (Int × ByteArray)}
theorem ownsRow_of_block {w w' : World} {base : Nat} {e : TypeId} {size : Nat} {v : Value} {n : Nat} {xs : List Value} (h : w.ownsRow base e size v n xs) (hk : ∀ k, v.ownBlock = some k → w'.heap[k]? = w.heap[k]?) : w'.ownsRow base e size v n xs := by
  refine ⟨h.1, ?_⟩
  rcases h.2 with h1 | ⟨g, cap, cur, rfl, h2, h3, h4⟩
  · exact Or.inl h1
  · exact Or.inr ⟨g, cap, cur, rfl, h2, (hk g rfl).trans h3, h4⟩
theorem RefAt.lt (h : RefAt B G m room v L w) {k : Nat} (hk : G k) : k < w.heap.size := by
  rcases (h.own k).1 hk with rfl | hk
  · exact lt_of_heap h.obj
  · exact (h.row.lt k hk).2
theorem RefAt.lowG (h : RefAt B G m room v L w) {k : Nat} (hk : G k) : B ≤ k := by
  rcases (h.own k).1 hk with rfl | hk
  · exact h.low
  · exact (h.row.lt k hk).1
theorem RefAt.stay {F : Nat → Prop} (h : RefAt B G m room v L w) (k : Stir F w w') (hn : ∀ b, G b → ¬ F b) : RefAt B G m room v L w' :=
  ⟨k.keep h.obj (hn m ((h.own m).2 (Or.inl rfl))), ownsRow_of_block h.row (fun b hb => k.block b (h.row.lt b hb).2 (hn b ((h.own b).2 (Or.inr hb)))), h.own, h.apart, h.low⟩
theorem RefAt.later (h : RefAt B G m room v L w) (k : Below w.heap.size w w') : RefAt B G m room v L w' :=
  h.stay (Stir.of_below (F := fun _ => False) k) (fun _ _ h => h)
theorem row_shape {w : World} {base : Nat} {e : TypeId} {size : Nat} {v : Value} {n : Nat} {xs : List Value} (h : w.ownsRow base e size v n xs) : ∃ a cap, v = .slice a n cap := by
  rcases h.2 with ⟨rfl, h0⟩ | ⟨g, cap, cur, rfl, _⟩
  · exact ⟨none, 0, by rw [h0]⟩
  · exact ⟨_, _, rfl⟩
/-- a thing's two cells -/
theorem RefAt.thing (h : RefAt B G m room v L w) {i : Nat} (hi : i < L.length) : ∃ g cap, v = .slice (some ⟨g, 0, none⟩) L.length cap ∧ L.length ≤ cap ∧ cap ≤ maxLen ∧ g < w.heap.size ∧ (∃ cur, w.heap[g]? = some (.cells cur 64 (0, 0)) ∧ cur.toList.take (L.length * 2) = thingCells L ∧ cur.size = cap * 2) ∧
    w.cell? ⟨g, i * 2, none⟩ = some (.int .i64 L[i].1) ∧ w.cell? ⟨g, i * 2 + 1, none⟩ = some (.string L[i].2) := by
  rcases h.row.2 with ⟨_, h0⟩ | ⟨g, cap, cur, rfl, h2, h3, h4, h5, h6, h7⟩
  · omega
  · obtain ⟨t1, t2⟩ := thingCells_at L i hi
    refine ⟨g, cap, rfl, h4, h5, lt_of_heap h3, ⟨cur, h3, h7, h6⟩, ?_, ?_⟩
    · rw [h.row.cellAt (i * 2) (by omega), t1]
    · rw [h.row.cellAt (i * 2 + 1) (by omega), t2]

/-- where a key stands -/
def atL (L : List (Int × ByteArray)) (k : Int) : Option Nat := L.findIdx? fun x => x.1 = k
def atV (L : List (Int × ByteArray)) (k : Int) : Value := match atL L k with | some i => .int .i64 (i : Nat) | none => .int .i64 (-1)

set_option maxRecDepth 100000 in
set_option maxHeartbeats 1000000 in
theorem at_any (h : RefAt B G m room v L w) (hL : L.length ≤ 1048576) (k : Int) :
    Calls Try.prog 28 #[.pointer (some ⟨m, 0, none⟩), .int .i64 k] w fun e w' => e = .returned (atV L k) ∧ w = w' := by
  have H := Lib.hid h
  have c1 := RefObj.c1 h.obj
  obtain ⟨a, cap, hv⟩ : ∃ a cap, v = .slice a L.length cap := by
    rcases h.row.2 with ⟨rfl, h0⟩ | ⟨g, cap, cur, rfl, _⟩
    · exact ⟨none, 0, by rw [h0]⟩
    · exact ⟨_, _, rfl⟩
  rw [hv] at c1
  have HV := Lib.hid hv
  clear hv h
  go_enter Try.func28, Try.ntmps28
  go_wp2
  go_loop [5] (fun i => ∃ j : Nat, j ≤ L.length ∧ i = .int .i64 j ∧ ∀ x ∈ L.take j, x.1 ≠ k) (fun i => L.length - (intOf i).toNat)
  case atStart => exact ⟨0, Nat.zero_le _, rfl, by simp⟩
  case round =>
    obtain ⟨j, hj, rfl, hno⟩ := hrel
    have HN := Lib.hid hno
    clear hno
    by_cases hlt : j < L.length
    · obtain ⟨g, cap', e, h1, h2, h3, -, h4, h5⟩ := H.out.thing hlt
      rw [HV.out] at e
      obtain ⟨rfl, -, rfl⟩ : a = some ⟨g, 0, none⟩ ∧ True ∧ cap = cap' := by simpa using e
      clear e h5
      have hji : (j : Int) < (L.length : Int) := by omega
      by_cases hk : L[j].1 = k
      · have hE := Lib.hid (show atL L k = some j by
          unfold atL
          rw [List.findIdx?_eq_some_iff_getElem]
          refine ⟨hlt, by simpa using hk, fun i hi => ?_⟩
          have := HN.out L[i] (List.mem_take_iff_getElem.2 ⟨i, by omega, rfl⟩)
          simpa using this)
        generalize L[j].1 = z at *
        have hk1 : (z == k) = true := by simp [hk]
        have HK := Lib.hid hk
        clear hk
        go_wp2
        go_ret
        exact ⟨by unfold atV; rw [hE.out]; rfl, rfl⟩
      · have hE := Lib.hid (show ∀ x ∈ L.take (j + 1), x.1 ≠ k by
          intro x hx
          rw [List.take_succ_eq_append_getElem hlt] at hx
          rcases List.mem_append.1 hx with hx | hx
          · exact HN.out x hx
          · rw [List.mem_singleton.1 hx]; exact hk)
        generalize L[j].1 = z at *
        go_wp2
        go_round
        case rel => exact ⟨j + 1, hlt, by go_num, hE.out⟩
        case measure => simp [intOf]; omega
    · have hE := Lib.hid (show atL L k = none by
        unfold atL
        rw [List.findIdx?_eq_none_iff]
        intro x hx
        have := HN.out x (by rw [List.take_of_length_le (by omega)]; exact hx)
        simpa using this)
      go_wp2
      go_ret
      exact ⟨by unfold atV; rw [hE.out]; rfl, rfl⟩
end
end Go.Proofs.Ytipnbggbejkhkaa
