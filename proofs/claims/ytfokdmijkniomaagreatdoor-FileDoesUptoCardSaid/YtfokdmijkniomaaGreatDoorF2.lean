/-
  FilI / FilJ / FilK.
-/
import Derived.Test.YtfokdmijkniomaaGreatDoorFilH
import Derived.Test.YtfokdmijkniomaaGreatDoorTN
import Derived.Test.YtfokdmijkniomaaGreatDoorKS
import Derived.Deep.LoopGhost
import Derived.Carry
import Derived.Deep.QuietTactic
import Derived.BigQuiet
import Derived.Test.YtfokdmijkniomaaGreatDoorC1
import Derived.Deep.RegionHeld3
namespace Go.Proofs.YtfokdmijkniomaaGreatDoor
open Go.RowKit Go Go.Maps

def updI {α : Type} (f : Int → α) (k : Int) (x : α) : Int → α := fun j => if j = k then x else f j
theorem updI_same {α : Type} (f : Int → α) (k : Int) (x : α) : updI f k x k = x := by simp [updI]
theorem updI_other {α : Type} (f : Int → α) {k j : Int} (x : α) (h : j ≠ k) : updI f k x j = f j := by simp [updI, h]

section
variable {w w' : World} {c m : Nat} {P : Int → Nat} {G : Int → Option Nat} {T : List Nod} {D : DataW Unit}
/-- a node more -/
theorem TreeAt.put {w1 w2 : World} (h : TreeAt c m P G T D w1) {y : Nod} (hn : nodeAt T y.num = none) {b : Nat} {p : Option Nat} (hy : NodeAt w1 b p y) (hp : ∀ g, p = some g → ¬ FootT c m P G T g)
    {n : Nat} (hm : w2.ownsMap Tryz.prog 3 ptrElem m n (D.put (litI y.num) (.lit (.int .i64 b)))) (ht : w1.mapTurned w2 m) :
    TreeAt c m (updI P y.num b) (updI G y.num p) (putN y T) (D.put (litI y.num) (.lit (.int .i64 b))) w2 := by
  have S : Stir (· = m) w1 w2 := Stir.turned (Stir.refl _ _) (.inl rfl) ht
  have hsz : Maps.size (D.put (litI y.num) (DataW.lit (H := Unit) (.int .i64 b))) = (putN y T).length := by
    rw [Maps.size_put (h.map.tidy lawI), h.has, hn, h.size, lenN_new h.rise hn]; rfl
  have hbm : b ≠ m := by
    rintro rfl
    obtain ⟨es, clock, hb⟩ := owns_obj h.map
    rw [hy.obj] at hb; cases hb
  refine ⟨S.keep h.obj h.c_m, by rw [← hsz]; exact owns_fit hm, hsz, fun k z => ?_, fun k x hx => ?_, fun k x hx => ?_, fun i j x x' g hx hx' hi hj => ?_, h.rise.put y⟩
  · rw [at_put]
    by_cases e : y.num = k
    · subst e
      rw [if_pos rfl, atKey_put_same (k := litI y.num) h.map.isMap trivial, updI_same]
    · rw [if_neg e, atKey_put_other (fun e2 => e (litI_inj e2).symm), h.look k z, updI_other _ _ (fun e2 => e e2.symm)]
  · rw [at_put] at hx
    split at hx
    · rename_i e
      cases hx; subst e
      rw [updI_same, updI_same]
      exact hy.stay S hbm (fun g hg e => hp g hg (.inr (.inl e)))
    · rename_i e
      rw [updI_other _ _ (fun e2 => e e2.symm), updI_other _ _ (fun e2 => e e2.symm)]
      exact (h.node k x hx).stay S (fun e => h.m_P hx e.symm) (fun g hg e => h.apart k x hx (by rw [hg, e]))
  · rw [at_put] at hx
    split at hx
    · rename_i e
      subst e
      rw [updI_same]
      intro e; exact hp m e (.inr (.inl rfl))
    · rename_i e
      rw [updI_other _ _ (fun e2 => e e2.symm)]
      exact h.apart k x hx
  · rw [at_put] at hx hx'
    by_cases e1 : y.num = i <;> by_cases e2 : y.num = j
    · rw [← e1, e2]
    · rw [if_neg e2] at hx'
      subst e1
      rw [updI_same] at hi
      rw [updI_other _ _ (fun e => e2 e.symm)] at hj
      exact absurd (.inr (.inr ⟨j, x', hx', .inr hj⟩)) (hp g hi)
    · rw [if_neg e1] at hx
      subst e2
      rw [updI_same] at hj
      rw [updI_other _ _ (fun e => e1 e.symm)] at hi
      exact absurd (.inr (.inr ⟨i, x, hx, .inr hi⟩)) (hp g hj)
    · rw [if_neg e1] at hx
      rw [if_neg e2] at hx'
      rw [updI_other _ _ (fun e => e1 e.symm)] at hi
      rw [updI_other _ _ (fun e => e2 e.symm)] at hj
      exact h.own i j x x' g hx hx' hi hj
theorem foot_put {y : Nod} {b : Nat} {p : Option Nat} {i : Nat} (h : FootT c m (updI P y.num b) (updI G y.num p) (putN y T) i) : FootT c m P G T i ∨ i = b ∨ p = some i := by
  rcases h with h | h | ⟨k, x, hx, h⟩
  · exact .inl (.inl h)
  · exact .inl (.inr (.inl h))
  · rw [at_put] at hx
    split at hx
    · rename_i e
      subst e
      rw [updI_same, updI_same] at h
      exact .inr h
    · rename_i e
      rw [updI_other _ _ (fun e2 => e e2.symm), updI_other _ _ (fun e2 => e e2.symm)] at h
      exact .inl (.inr (.inr ⟨k, x, hx, h⟩))
/-- the blocks of those that were there stay theirs -/
def SameOn (T : List Nod) (P P' : Int → Nat) (G G' : Int → Option Nat) : Prop := ∀ j x, nodeAt T j = some x → P' j = P j ∧ G' j = G j

/-- what add leaves -/
def AddedT (c m : Nat) (P : Int → Nat) (G : Int → Option Nat) (T : List Nod) (y : Nod) (w w' : World) : Prop :=
  ∃ P' G' D', TreeAt c m P' G' (putN y T) D' w' ∧ Stir (· = m) w w' ∧ (∀ i, FootT c m P' G' (putN y T) i → FootT c m P G T i ∨ w.heap.size ≤ i) ∧ SameOn T P P' G G'

set_option maxRecDepth 100000 in
set_option maxHeartbeats 1000000 in
theorem add_any (h : TreeAt c m P G T D w) (hl : T.length ≤ 60) {k : Int} (hk : IntOk k) (hn : nodeAt T k = none) (dir : Bool) :
    Calls Tryz.prog 19 #[.pointer (some ⟨c, 0, none⟩), .int .i64 k, .bool dir] w fun e w' => e = .returned (.tuple #[]) ∧
      AddedT c m P G T ⟨k, dir, 1, ⟨#[]⟩, []⟩ w w' := by
  obtain ⟨w1, hw1⟩ : ∃ w1, w.alloc (NObj ⟨k, dir, 1, ⟨#[]⟩, []⟩ none) = w1 := ⟨_, rfl⟩
  have hB1 : Below w.heap.size w w1 := by rw [← hw1]; exact (Below.refl _ w).alloc (Nat.le_refl _) _
  have hs1 : w1.heap.size = w.heap.size + 1 := by rw [← hw1]; exact Array.size_push _
  have o1 : w1.heap[w.heap.size]? = some (NObj ⟨k, dir, 1, ⟨#[]⟩, []⟩ none) := by rw [← hw1]; exact heap_alloc_new w _
  have h1 := h.later hB1
  have hcl := h.lt (.inl rfl)
  have nf : ∀ i, FootT c m P G T i → i < w.heap.size := fun i hi => h.lt hi
  have same : ∀ b p, SameOn T P (updI P k b) G (updI G k p) := fun b p j x hx => by
    have : j ≠ k := fun e => by rw [e, hn] at hx; cases hx
    exact ⟨updI_other _ _ this, updI_other _ _ this⟩
  cases dir with
  | false =>
    obtain ⟨w2, hrun, hm2, ht2⟩ := h1.map.store lawI Tryz.underlying51 (by unfold maxLen; omega) (keyI hk) (val := .pointer (some ⟨w.heap.size, 0, none⟩)) (d := .lit (.int .i64 w.heap.size)) (ps := []) rfl
    have c0 := TObj.c0 h1.obj
    have HX := Lib.hid (h1.put (y := ⟨k, false, 1, ⟨#[]⟩, []⟩) hn (b := w.heap.size) (p := none) ⟨o1, rfl, rfl⟩ (fun g hg => by cases hg) hm2 ht2)
    have HB := Lib.hid hB1
    have HT := Lib.hid ht2
    have HM := Lib.hid (nf m (.inr (.inl rfl)))
    have HN := Lib.hid hn
    clear h h1 hm2 ht2 hB1 hn nf
    unfold NObj at hw1 o1
    go_enter Tryz.func19, Tryz.ntmps19
    go_wp2
    go_end0
    refine ⟨rfl, _, _, _, HX.out, ((Stir.of_below (F := (· = m)) HB.out).turned (.inl rfl) HT.out), fun i hi => ?_, same _ _⟩
    rcases foot_put hi with h | h | h
    · exact .inl h
    · exact .inr (Nat.le_of_eq h.symm)
    · cases h
  | true =>
    obtain ⟨w2, hw2⟩ : ∃ w2, w1.alloc (.map #[] 0) = w2 := ⟨_, rfl⟩
    have hB2 : Below w1.heap.size w1 w2 := by rw [← hw2]; exact (Below.refl _ w1).alloc (Nat.le_refl _) _
    have o2 : w2.heap[w.heap.size]? = some (NObj ⟨k, true, 1, ⟨#[]⟩, []⟩ none) := keeps_of hB2 o1
    have m2 : w2.ownsMap Tryz.prog 9 intElem w1.heap.size 0 (.map []) := by rw [← hw2]; exact World.ownsMap_made w1 _ _ _
    have fr2 := NObj.fr o2 4
    have c42 := NObj.c4 o2
    obtain ⟨w3, hw3⟩ : ∃ w3, w2.setCell ⟨w.heap.size, 4, none⟩ (.map (some w1.heap.size)) = w3 := ⟨_, rfl⟩
    have o3 : w3.heap[w.heap.size]? = some (NObj ⟨k, true, 1, ⟨#[]⟩, []⟩ (some w1.heap.size)) := by rw [← hw3, heap_set o2]; rfl
    have hne : w1.heap.size ≠ w.heap.size := by omega
    have m3 : w3.ownsMap Tryz.prog 9 intElem w1.heap.size 0 (.map []) := by rw [← hw3]; exact m2.setCell hne _
    have S3 : Stir (fun _ => False) w w3 := by
      rw [← hw3]
      exact ((Stir.of_below (F := fun _ => False) hB1).and_below hB2).set (.inr (Nat.le_refl _)) _
    have h3 := h.stay S3 (fun _ _ f => f)
    obtain ⟨w4, hrun, hm4, ht4⟩ := h3.map.store lawI Tryz.underlying51 (by unfold maxLen; omega) (keyI hk) (val := .pointer (some ⟨w.heap.size, 0, none⟩)) (d := .lit (.int .i64 w.heap.size)) (ps := []) rfl
    have c0 := TObj.c0 h3.obj
    have HX := Lib.hid (h3.put (y := ⟨k, true, 1, ⟨#[]⟩, []⟩) hn (b := w.heap.size) (p := some w1.heap.size) ⟨o3, rfl, _, m3, rfl, reads_none⟩ (fun g hg f => by cases hg; have := nf _ f; omega) hm4 ht4)
    have HB := Lib.hid S3
    have HT := Lib.hid ht4
    have HN := Lib.hid hn
    have HS := Lib.hid hs1
    clear h h1 h3 hm4 ht4 hB1 hB2 hn nf S3 m2 m3 o2 o3 hs1 hne
    have hmm := @run_makeMap Tryz.prog
    unfold NObj at hw1 o1
    go_enter Tryz.func19, Tryz.ntmps19
    go_wp2
    go_end0
    refine ⟨rfl, _, _, _, HX.out, ((HB.out.weaken (fun _ f => f.elim)).turned (.inl rfl) HT.out), fun i hi => ?_, same _ _⟩
    rcases foot_put hi with h | h | h
    · exact .inl h
    · exact .inr (Nat.le_of_eq h.symm)
    · refine .inr ?_
      have := Option.some.inj h
      have := HS.out
      omega
end

/-- a tree of the root alone -/
def newT : List Nod := [⟨1, true, 1, ⟨#[]⟩, []⟩]
theorem good_new : Good newT := by
  have hat : ∀ k, nodeAt newT k = if (1 : Int) = k then some ⟨1, true, 1, ⟨#[]⟩, []⟩ else none := fun k => rfl
  have hs : ∀ k t j, stepE newT k t ≠ .ok j := fun k t j h => by
    obtain ⟨x, hx, _, hl⟩ := step_ok.1 h
    rw [hat] at hx
    split at hx
    · cases hx; cases hl
    · cases hx
  have hr : RiseN newT := List.pairwise_singleton _ _
  have F : Formed newT := by
    refine Formed.of hr (by decide) (fun k x hx => ?_) ⟨_, rfl, rfl, rfl⟩ (fun k t j h => absurd h (hs k t j)) (fun k x hx hk => ?_)
    · rw [hat] at hx
      split at hx
      · cases hx
        exact ⟨⟨by decide, by decide⟩, (fun h => (by cases h)), fun _ => ⟨rfl, List.Pairwise.nil, by decide, fun e he => (by cases he)⟩⟩
      · cases hx
    · rw [hat] at hx
      split at hx
      · rename_i e; exact absurd e.symm hk
      · cases hx
  refine ⟨F, fun x hx hd => ⟨[], ?_⟩, fun l k hw => ?_⟩
  · have : x = ⟨1, true, 1, ⟨#[]⟩, []⟩ := by simpa [newT] using hx
    rw [this]; rfl
  · cases l with
    | nil => simp
    | cons s l =>
      rw [walkE] at hw
      cases e : stepE newT 1 s with
      | error e2 => rw [e] at hw; cases hw
      | ok j => exact absurd e (hs _ _ _)
theorem TreeAt.foot_new {w : World} {c m : Nat} {P : Int → Nat} {G : Int → Option Nat} (h : ∀ i, FootT c m P G newT i → FootT c m (fun _ => 0) (fun _ => none) [] i ∨ w.heap.size ≤ i) {B : Nat} (hc : B ≤ c) (hm : B ≤ m) (hw : B ≤ w.heap.size) (i : Nat) (hi : FootT c m P G newT i) : B ≤ i := by
  rcases h i hi with h1 | h1
  · rcases h1 with rfl | rfl | ⟨k, x, hx, _⟩
    · exact hc
    · exact hm
    · cases hx
  · omega
/-- what New leaves -/
def NewT (w : World) (e : Ending) (w' : World) : Prop := ∃ c F, e = .returned (.pointer (some ⟨c, 0, none⟩)) ∧ TreeIs w.heap.size F c newT w' ∧ Below w.heap.size w w'
set_option maxRecDepth 100000 in
set_option maxHeartbeats 1000000 in
theorem new_any (w : World) : Calls Tryz.prog 4 #[] w fun e w' => NewT w e w' := by
  obtain ⟨w1, hw1⟩ : ∃ w1, w.alloc (.map #[] 0) = w1 := ⟨_, rfl⟩
  have hB1 : Below w.heap.size w w1 := by rw [← hw1]; exact (Below.refl _ w).alloc (Nat.le_refl _) _
  have hs1 : w1.heap.size = w.heap.size + 1 := by rw [← hw1]; exact Array.size_push _
  have m1 : w1.ownsMap Tryz.prog 3 ptrElem w.heap.size 0 (.map []) := by rw [← hw1]; exact World.ownsMap_made w _ _ _
  obtain ⟨w2, hw2⟩ : ∃ w2, w1.alloc (TObj w.heap.size) = w2 := ⟨_, rfl⟩
  have hB2 : Below w1.heap.size w1 w2 := by rw [← hw2]; exact (Below.refl _ w1).alloc (Nat.le_refl _) _
  have o2 : w2.heap[w1.heap.size]? = some (TObj w.heap.size) := by rw [← hw2]; exact heap_alloc_new w1 _
  have h2 : TreeAt w1.heap.size w.heap.size (fun _ => 0) (fun _ => none) [] (.map []) w2 :=
    ⟨o2, owns_stay m1 (Stir.of_below (F := fun _ => False) hB2) (fun f => f), rfl, fun _ _ => rfl, fun k x hx => (by cases hx), fun k x hx => (by cases hx), fun i j x y g hx => (by cases hx), List.Pairwise.nil⟩
  have C := add_any h2 (by decide) (k := 1) ⟨by decide, by decide⟩ rfl true
  have HS := Lib.hid hs1
  have HB := Lib.hid (hB1.trans (hB2.mono hB1.size))
  have HL := Lib.hid hB2.size
  have hmm := @run_makeMap Tryz.prog
  unfold TObj at hw2
  clear hB1 hB2 hs1 m1 o2 h2
  go_enter Tryz.func4, Tryz.ntmps4
  go_wp2_with fail
  refine C.mono ?_
  rintro e w3 ⟨rfl, HA⟩
  have HA := Lib.hid HA
  go_wp2
  go_ret
  obtain ⟨P', G', D', h1, h2, h3, h4⟩ := HA.out
  have hs := HS.out
  have hl := HL.out
  refine ⟨_, FootT w1.heap.size w.heap.size P' G' newT, rfl, ⟨_, _, _, _, h1, fun _ => Iff.rfl, TreeAt.foot_new (w := w2) h3 (by omega) (Nat.le_refl _) (by omega)⟩, ?_⟩
  exact HB.out.trans (h2.below (fun k hk => by omega) (by omega))
end Go.Proofs.YtfokdmijkniomaaGreatDoor

namespace Go.Proofs.YtfokdmijkniomaaGreatDoor
open Go.RowKit Go Go.Maps

/-- what walk answers -/
def walkRes (P : Int → Nat) : Except Int Int → Value
  | .ok k => .tuple #[.pointer (some ⟨P k, 0, none⟩), .int .i64 0]
  | .error e => .tuple #[.pointer none, .int .i64 e]
section
variable {w w' : World} {c m : Nat} {P : Int → Nat} {G : Int → Option Nat} {T : List Nod} {D : DataW Unit}
theorem walk_stop {T : List Nod} {k i e : Int} {a b : List ByteArray} {s : ByteArray} (h : walkE T k a = .ok i) (hs : stepE T i s = .error e) : walkE T k (a ++ s :: b) = .error e := by
  rw [walk_to h, walkE, hs]
theorem step_file {T : List Nod} {k : Int} {x : Nod} {s : ByteArray} (hx : nodeAt T k = some x) (hd : x.dir = false) : stepE T k s = .error 143 := by
  unfold stepE; rw [hx]; simp [hd]
theorem step_none {T : List Nod} {k : Int} {x : Nod} {s : ByteArray} (hx : nodeAt T k = some x) (hd : x.dir = true) (hl : lookE x.names s = none) : stepE T k s = .error 141 := by
  unfold stepE; rw [hx]; simp [hd, hl]
theorem Formed.intOk (h : Formed T) {k : Int} {x : Nod} (hx : nodeAt T k = some x) : IntOk k := by
  have := h.num x (at_mem hx).1
  rw [(at_mem hx).2] at this
  exact ⟨by omega, by omega⟩
theorem NamesAt.isSome {w : World} {l : List Ent} {p : Option Nat} (h : NamesAt w true l p) : ∃ g, p = some g := by
  cases p with
  | none => cases h.1
  | some g => exact ⟨g, rfl⟩
set_option maxRecDepth 100000 in
set_option maxHeartbeats 4000000 in
theorem walk_any (h : TreeAt c m P G T D w) (hF : Formed T) {v : Value} {l : List ByteArray} (hv : TextsAt w v l) (hl : l.length ≤ 1000) (hs : ∀ s ∈ l, s.size ≤ maxLen) :
    Calls Tryz.prog 72 #[.pointer (some ⟨c, 0, none⟩), v] w fun e w' => e = .returned (walkRes P (walkE T 1 l)) ∧ Below w.heap.size w w' := by
  obtain ⟨a, cap, rfl, ha⟩ := hv
  obtain ⟨r, hr, _⟩ := hF.root
  have c0 := TObj.c0 h.obj
  have hl1 := h.lookup_some ⟨by decide, by decide⟩ hr
  have HH := Lib.hid h
  have HA := Lib.hid ha
  have HF := Lib.hid hF
  have HS := Lib.hid hs
  clear h ha hs hr hF
  obtain ⟨R, hR⟩ : ∃ R, walkRes P (walkE T 1 l) = R := ⟨_, rfl⟩
  have HR := Lib.hid hR
  rw [hR]
  clear hR
  go_enter Tryz.func72, Tryz.ntmps72
  go_wp2
  clear c0 hl1
  go_loopw [6, 18] (fun n i wr => ∃ (j : Nat) (k : Int), j ≤ l.length ∧ i = .int .i64 j ∧ n = .pointer (some ⟨P k, 0, none⟩) ∧ Hid (walkE T 1 (l.take j) = .ok k) ∧ Hid (Below w.heap.size w wr)) (fun _ i _ => l.length - (intOf i).toNat)
  case atStart => exact ⟨0, 1, Nat.zero_le _, rfl, rfl, Lib.hid rfl, Lib.hid (Below.refl _ _)⟩
  case round =>
    obtain ⟨j, k, hj, rfl, rfl, HW, HB⟩ := hrel
    by_cases hlt : j < l.length
    · have hji : (j : Int) < (l.length : Int) := by omega
      obtain ⟨b, off, rfl, hca⟩ := HA.out (by rintro rfl; simp at hlt)
      have hc1 : wr.cell? ⟨b, off + j, none⟩ = some (.string l[j]) := (HB.out.cell (p := ⟨b, off + j, none⟩) (lt_of_cell (hca j hlt))).trans (hca j hlt)
      have hsz := HS.out l[j] (List.getElem_mem _)
      have hsplit := List.take_append_drop j l
      rw [List.drop_eq_getElem_cons hlt] at hsplit
      have HT := Lib.hid hsplit
      have HT1 := Lib.hid (List.take_succ_eq_append_getElem hlt)
      clear hca hsplit
      obtain ⟨x, hx⟩ := HF.out.walk_node HW.out
      have h1 := HH.out.later HB.out
      have hn := h1.node k x hx
      have d1 := NObj.c1 hn.obj
      generalize l[j] = s at *
      cases hd : x.dir with
      | false =>
        rw [hd] at d1
        have HE := Lib.hid (HR.out.symm.trans (by rw [← HT.out, walk_stop HW.out (step_file hx hd)]; rfl) : R = .tuple #[.pointer none, .int .i64 143])
        clear h1 hn hx hd
        go_wp2
        go_ret2
        exact ⟨by rw [HE.out]; rfl, HB.out⟩
      | true =>
        rw [hd] at d1
        have hnm := hn.names
        rw [hd] at hnm
        obtain ⟨g, hg⟩ := hnm.isSome
        have d4 := NObj.c4 hn.obj
        rw [hg] at d4 hnm
        have hlk := hnm.look hsz
        cases hlo : lookE x.names s with
        | none =>
          rw [hlo] at hlk
          have HE := Lib.hid (HR.out.symm.trans (by rw [← HT.out, walk_stop HW.out (step_none hx hd hlo)]; rfl) : R = .tuple #[.pointer none, .int .i64 141])
          simp only [Option.getD_none, Option.isSome_none] at hlk
          clear h1 hn hx hd hnm
          go_wp2
          go_ret2
          exact ⟨by rw [HE.out]; rfl, HB.out⟩
        | some i =>
          rw [hlo] at hlk
          simp only [Option.getD_some, Option.isSome_some] at hlk
          have hst : stepE T k s = .ok i := step_ok.2 ⟨x, hx, hd, hlo⟩
          obtain ⟨_, y, hy⟩ := HF.out.step_ne hst
          have hl2 := h1.lookup_some (HF.out.intOk hy) hy
          have c0 := TObj.c0 h1.obj
          have HN := Lib.hid (show walkE T 1 (l.take (j + 1)) = .ok i by rw [HT1.out]; exact walk_snoc.2 ⟨k, HW.out, hst⟩)
          clear h1 hn hx hd hnm hst hy hlo
          go_wp2
          go_roundw
          case rel => exact ⟨j + 1, i, by omega, rfl, rfl, HN, HB⟩
          case measure => simp [intOf]; omega
    · have hji : ¬ (j : Int) < (l.length : Int) := by omega
      have HE := Lib.hid (HR.out.symm.trans (by rw [← HW.out, List.take_of_length_le (by omega)]) : R = walkRes P (.ok k))
      have HEE := Lib.hid (show R = .tuple #[.pointer (some ⟨P k, 0, none⟩), .int .i64 0] from HE.out)
      clear HE
      go_wp2
      go_ret2
      exact ⟨by rw [HEE.out]; rfl, HB.out⟩
end

/-- what a path finds -/
noncomputable def findR (T : List Nod) (s : ByteArray) : Except Int Int := if PathOk s then walkE T 1 (namesOf s) else .error 140
noncomputable def fileR (T : List Nod) (s : ByteArray) : Except Int Int := match findR T s with
  | .error e => .error e
  | .ok k => if isDir T k = true then .error 143 else .ok k
theorem findR_yes {T : List Nod} {s : ByteArray} {l : List ByteArray} (h : IsPath s l) : findR T s = walkE T 1 l := by
  unfold findR
  rw [if_pos ⟨l, h⟩, namesOf_is h]
theorem findR_no {T : List Nod} {s : ByteArray} (h : ∀ l, ¬ IsPath s l) : findR T s = .error 140 := by
  unfold findR
  rw [if_neg (fun ⟨l, hl⟩ => h l hl)]
theorem path_names {s : ByteArray} {l : List ByteArray} (h : IsPath s l) : l.length ≤ 1000 ∧ ∀ x ∈ l, x.size ≤ maxLen :=
  ⟨by have := h.2.1; omega, fun x hx => by have := (h.1 x hx).2.1; unfold maxLen; omega⟩
theorem texts_of {W : World} {base : Nat} {v : Value} {l : List ByteArray} (h : W.ownsRow base 9 1 v l.length (strVs l)) : TextsAt W v l := texts_of_row h
/-- what parent answers -/
def parentRes (P : Int → Nat) (T : List Nod) (l : List ByteArray) : Value := match walkE T 1 l.dropLast with
  | .ok p => .tuple #[.pointer (some ⟨P p, 0, none⟩), .string (lastOf l), .int .i64 0]
  | .error e => .tuple #[.pointer none, .string (lastOf l), .int .i64 e]
/-- what place answers -/
def placeRes (P : Int → Nat) : Except Int (Int × ByteArray) → Value
  | .ok (p, s) => .tuple #[.pointer (some ⟨P p, 0, none⟩), .string s, .int .i64 0]
  | .error e => .tuple #[.pointer none, .string ⟨#[]⟩, .int .i64 e]
section
variable {w w' : World} {c m : Nat} {P : Int → Nat} {G : Int → Option Nat} {T : List Nod} {D : DataW Unit}
set_option maxRecDepth 100000 in
set_option maxHeartbeats 1000000 in
theorem find_any (h : TreeAt c m P G T D w) (hF : Formed T) {s : ByteArray} (hs : s.size ≤ 281474976710656) :
    Calls Tryz.prog 40 #[.pointer (some ⟨c, 0, none⟩), .string s] w fun e w' => e = .returned (walkRes P (findR T s)) ∧ Below w.heap.size w w' := by
  have C := path_any s hs w
  have HH := Lib.hid h
  have HF := Lib.hid hF
  clear h hF
  obtain ⟨R, hR⟩ : ∃ R, walkRes P (findR T s) = R := ⟨_, rfl⟩
  have HR := Lib.hid hR
  rw [hR]
  clear hR
  go_enter Tryz.func40, Tryz.ntmps40
  go_wp2_with fail
  refine C.mono ?_
  rintro e w1 ⟨hE, hB⟩
  rcases hE with ⟨l, v, hp, rfl, hrow⟩ | ⟨hno, rfl⟩
  · have h1 := HH.out.later hB
    have C2 := walk_any h1 HF.out (texts_of hrow) (path_names hp).1 (path_names hp).2
    have HE := Lib.hid (show walkRes P (walkE T 1 l) = R by rw [← HR.out, findR_yes hp])
    have HB := Lib.hid hB
    clear h1 hrow hp hB
    cases hw : walkE T 1 l with
    | ok k =>
      rw [hw] at C2
      have HE2 := Lib.hid (show Value.tuple #[.pointer (some ⟨P k, 0, none⟩), .int .i64 0] = R by rw [← HE.out, hw]; rfl)
      unfold walkRes at C2
      go_wp2_with fail
      refine C2.mono ?_
      rintro e w2 ⟨rfl, hB2⟩
      go_wp2
      go_ret2
      exact ⟨by rw [← HE2.out]; rfl, HB.out.trans (hB2.mono HB.out.size)⟩
    | error k =>
      rw [hw] at C2
      have HE2 := Lib.hid (show Value.tuple #[.pointer none, .int .i64 k] = R by rw [← HE.out, hw]; rfl)
      unfold walkRes at C2
      go_wp2_with fail
      refine C2.mono ?_
      rintro e w2 ⟨rfl, hB2⟩
      go_wp2
      go_ret2
      exact ⟨by rw [← HE2.out]; rfl, HB.out.trans (hB2.mono HB.out.size)⟩
  · have HE2 := Lib.hid (show Value.tuple #[.pointer none, .int .i64 140] = R by rw [← HR.out, findR_no hno]; rfl)
    have HB := Lib.hid hB
    clear hB
    go_wp2
    go_ret2
    exact ⟨by rw [← HE2.out]; rfl, HB.out⟩
theorem findR_node (hF : Formed T) {s : ByteArray} {k : Int} (h : findR T s = .ok k) : ∃ x, nodeAt T k = some x := by
  unfold findR at h
  split at h
  · exact hF.walk_node h
  · cases h
theorem findR_err {s : ByteArray} {e : Int} (h : findR T s = .error e) : e = 140 ∨ e = 141 ∨ e = 143 := by
  unfold findR at h
  split at h
  · exact .inr (walk_err h)
  · cases h; exact .inl rfl
set_option maxRecDepth 100000 in
set_option maxHeartbeats 1000000 in
theorem file_any (h : TreeAt c m P G T D w) (hF : Formed T) {s : ByteArray} (hs : s.size ≤ 281474976710656) :
    Calls Tryz.prog 43 #[.pointer (some ⟨c, 0, none⟩), .string s] w fun e w' => e = .returned (walkRes P (fileR T s)) ∧ Below w.heap.size w w' := by
  have C := find_any h hF hs
  have HH := Lib.hid h
  have HF := Lib.hid hF
  clear h hF
  unfold fileR
  cases hw : findR T s with
  | error e =>
    have he := findR_err hw
    have he0 : (e == 0) = false := beq_eq_false_iff_ne.2 (by omega)
    rw [hw] at C
    unfold walkRes at C
    simp only
    unfold walkRes
    simp only
    clear he hw
    go_enter Tryz.func43, Tryz.ntmps43
    go_wp2_with fail
    refine C.mono ?_
    rintro e w1 ⟨rfl, hB⟩
    go_wp2
    go_ret2
    exact ⟨rfl, hB⟩
  | ok k =>
    rw [hw] at C
    unfold walkRes at C
    obtain ⟨x, hx⟩ := findR_node HF.out hw
    have hd : isDir T k = x.dir := (isDir_at hx).1
    simp only [hd]
    have C1 := fun w1 (hB : Below w.heap.size w w1) => NObj.c1 ((HH.out.later hB).node k x hx).obj
    clear hw hx hd
    cases hxd : x.dir with
    | true =>
      rw [hxd] at C1
      simp only [if_true]
      unfold walkRes
      simp only
      go_enter Tryz.func43, Tryz.ntmps43
      go_wp2_with fail
      refine C.mono ?_
      rintro e w1 ⟨rfl, hB⟩
      have d1 := C1 w1 hB
      clear C1
      go_wp2
      go_ret2
      exact ⟨rfl, hB⟩
    | false =>
      rw [hxd] at C1
      simp only [Bool.false_eq_true, if_false]
      unfold walkRes
      simp only
      go_enter Tryz.func43, Tryz.ntmps43
      go_wp2_with fail
      refine C.mono ?_
      rintro e w1 ⟨rfl, hB⟩
      have d1 := C1 w1 hB
      clear C1
      go_wp2
      go_ret2
      exact ⟨rfl, hB⟩
/-- a row of texts but for the last -/
theorem texts_init {W : World} {g cap : Nat} {l : List ByteArray} (h : TextsAt W (.slice (some ⟨g, 0, none⟩) l.length cap) l) : TextsAt W (.slice (some ⟨g, 0, none⟩) (l.length - 1) cap) l.dropLast := by
  obtain ⟨a, cap', e, hc⟩ := h
  cases e
  refine ⟨_, cap, by rw [List.length_dropLast], fun hne => ?_⟩
  obtain ⟨b, off, e, hc⟩ := hc (fun e => hne (by rw [e]; rfl))
  cases e
  refine ⟨g, 0, rfl, fun j hj => ?_⟩
  rw [List.length_dropLast] at hj
  rw [hc j (by omega), List.getElem_dropLast]
theorem last_cell {W : World} {g cap : Nat} {l : List ByteArray} (hl : l ≠ []) (h : TextsAt W (.slice (some ⟨g, 0, none⟩) l.length cap) l) : W.cell? ⟨g, l.length - 1, none⟩ = some (.string (lastOf l)) := by
  obtain ⟨a, cap', e, hc⟩ := h
  cases e
  obtain ⟨b, off, e, hc⟩ := hc hl
  cases e
  have hpos := List.length_pos_iff.2 hl
  have := hc (l.length - 1) (by omega)
  rw [Nat.zero_add] at this
  rw [this]
  unfold lastOf
  rw [List.getLast?_eq_getElem?, List.getElem?_eq_getElem (by omega)]
  rfl
set_option maxRecDepth 100000 in
set_option maxHeartbeats 1000000 in
theorem parent_any (h : TreeAt c m P G T D w) (hF : Formed T) {s : ByteArray} (hs : s.size ≤ 281474976710656) {l : List ByteArray} (hp : IsPath s l) (hl : l ≠ []) :
    Calls Tryz.prog 86 #[.pointer (some ⟨c, 0, none⟩), .string s] w fun e w' => e = .returned (parentRes P T l) ∧ Below w.heap.size w w' := by
  have C := path_any s hs w
  have HH := Lib.hid h
  have HF := Lib.hid hF
  have HP := Lib.hid hp
  have HL := Lib.hid hl
  clear h hF hp hl
  obtain ⟨R, hR⟩ : ∃ R, parentRes P T l = R := ⟨_, rfl⟩
  have HR := Lib.hid hR
  rw [hR]
  clear hR
  go_enter Tryz.func86, Tryz.ntmps86
  go_wp2_with fail
  refine C.mono ?_
  rintro e w1 ⟨hE, hB⟩
  rcases hE with ⟨l', v, hp, rfl, hrow⟩ | ⟨hno, _⟩
  · obtain rfl := hp.uniq HP.out
    have hT := texts_of hrow
    obtain ⟨g, cap, rfl⟩ : ∃ g cap, v = .slice (some ⟨g, 0, none⟩) l'.length cap := by
      rcases hrow.2 with ⟨_, h0⟩ | ⟨g, cap, cur, rfl, _⟩
      · exact absurd (List.eq_nil_of_length_eq_zero h0) HL.out
      · exact ⟨g, cap, rfl⟩
    have hcap : l'.length ≤ cap := by
      rcases hrow.2 with ⟨e, h0⟩ | ⟨g', cap', cur, e, _, _, h3, _⟩
      · cases e
      · cases e; exact h3
    have hlen := (path_names hp).1
    have h1 := HH.out.later hB
    have hlc := last_cell HL.out hT
    have C2 := fun w2 (hB2 : Below w1.heap.size w1 w2) => walk_any (h1.later hB2) HF.out (v := .slice (some ⟨g, 0, none⟩) (l'.length - 1) cap) (l := l'.dropLast) (by
      obtain ⟨a, cp, e, hc⟩ := texts_init hT
      refine ⟨a, cp, e, fun hne => ?_⟩
      obtain ⟨b, off, e2, hc2⟩ := hc hne
      exact ⟨b, off, e2, fun j hj => (hB2.cell (p := ⟨b, off + j, none⟩) (lt_of_cell (hc2 j hj))).trans (hc2 j hj)⟩) (by rw [List.length_dropLast]; omega) (fun x hx => (path_names hp).2 x (List.dropLast_subset _ hx))
    have C2 := C2 w1 (Below.refl _ _)
    have hpos := List.length_pos_iff.2 HL.out
    have HB := Lib.hid hB
    obtain ⟨N, hN⟩ : ∃ N, l'.length - 1 = N := ⟨_, rfl⟩
    have hN1 : l'.length = N + 1 := by omega
    have hNz : ((l'.length : Nat) : Int) - 1 = (N : Int) := by omega
    rw [hN] at C2 hlc
    have hNc : N + 1 ≤ cap := by omega
    have HN := Lib.hid (hlen)
    rw [hN1]
    have hN1z : ((N + 1 : Nat) : Int) - 1 = (N : Int) := by omega
    clear h1 hT hrow hp hB hN hNz hcap hlen hpos
    obtain ⟨S, hS⟩ : ∃ S, lastOf l' = S := ⟨_, rfl⟩
    rw [hS] at hlc
    have HNB := Lib.hid (show N ≤ 1000 by have := HN.out; omega)
    have hNb : (N : Int) ≤ 1000 := by have := HNB.out; omega
    cases hw : walkE T 1 l'.dropLast with
    | ok k =>
      rw [hw] at C2
      have HE2 := Lib.hid (show Value.tuple #[.pointer (some ⟨P k, 0, none⟩), .string S, .int .i64 0] = R by rw [← HR.out, parentRes, hw, hS])
      unfold walkRes at C2
      clear hS hw hN1
      go_wp2_with fail
      refine C2.mono ?_
      rintro e w2 ⟨rfl, hB2⟩
      have hlc2 := (hB2.cell (p := ⟨g, N, none⟩) (lt_of_cell hlc)).trans hlc
      clear hlc
      go_wp2
      go_quiet (fail)
      go_wp2
      go_ret3
      exact ⟨by rw [← HE2.out]; rfl, below_drewN (HB.out.trans (hB2.mono HB.out.size)) _⟩
    | error k =>
      rw [hw] at C2
      have HE2 := Lib.hid (show Value.tuple #[.pointer none, .string S, .int .i64 k] = R by rw [← HR.out, parentRes, hw, hS])
      unfold walkRes at C2
      clear hS hw hN1
      go_wp2_with fail
      refine C2.mono ?_
      rintro e w2 ⟨rfl, hB2⟩
      have hlc2 := (hB2.cell (p := ⟨g, N, none⟩) (lt_of_cell hlc)).trans hlc
      clear hlc
      go_wp2
      go_quiet (fail)
      go_wp2
      go_ret3
      exact ⟨by rw [← HE2.out]; rfl, below_drewN (HB.out.trans (hB2.mono HB.out.size)) _⟩
  · exact absurd HP.out (hno l)

theorem root_path {s : ByteArray} {l : List ByteArray} (h : IsPath s l) : (s.toList == [47]) = decide (l = []) := by
  rw [toList_eq]
  rcases h.2.2 with ⟨h1, h2⟩ | ⟨h1, h2⟩
  · rw [h2, h1]; rfl
  · rw [decide_eq_false h1]
    refine beq_eq_false_iff_ne.2 fun e => ?_
    rw [h2] at e
    exact joinB_ne h1 h.1 (List.cons.inj e).2
set_option maxRecDepth 100000 in
set_option maxHeartbeats 2000000 in
theorem place_any (h : TreeAt c m P G T D w) (hF : Formed T) {s : ByteArray} (hs : s.size ≤ 281474976710656) {l : List ByteArray} (hp : IsPath s l) :
    Calls Tryz.prog 53 #[.pointer (some ⟨c, 0, none⟩), .string s] w fun e w' => e = .returned (placeRes P (placeE T l)) ∧ Below w.heap.size w w' := by
  have hrt := root_path hp
  obtain ⟨R, hR⟩ : ∃ R, placeRes P (placeE T l) = R := ⟨_, rfl⟩
  have HR := Lib.hid hR
  rw [hR]
  clear hR
  by_cases hl : l = []
  · rw [decide_eq_true hl] at hrt
    have HE := Lib.hid (show Value.tuple #[.pointer none, .string ⟨#[]⟩, .int .i64 142] = R by rw [← HR.out, hl]; rfl)
    clear hl hp h hF
    go_enter Tryz.func53, Tryz.ntmps53
    go_wp2
    go_ret3
    exact ⟨by rw [← HE.out]; rfl, Below.refl _ _⟩
  · rw [decide_eq_false hl] at hrt
    have C := parent_any h hF hs hp hl
    have hgl : l.getLast? = some (lastOf l) := by
      rcases snoc_cases l with rfl | ⟨a, t, rfl⟩
      · exact absurd rfl hl
      · simp [lastOf]
    have hsz : (lastOf l).size ≤ maxLen := by
      refine (path_names hp).2 _ ?_
      exact List.mem_of_getLast? hgl
    have HH := Lib.hid h
    have HF := Lib.hid hF
    unfold placeE at HR
    rw [hgl] at HR
    simp only at HR
    unfold parentRes at C
    generalize lastOf l = t at *
    clear h hF hgl hp hl
    cases hw : walkE T 1 l.dropLast with
    | error e =>
      have he := walk_err hw
      have he0 : (e != 0) = true := by
        rcases he with rfl | rfl <;> rfl
      rw [hw] at C HR
      simp only at C HR
      have HE := Lib.hid (show Value.tuple #[.pointer none, .string ⟨#[]⟩, .int .i64 e] = R by rw [← HR.out]; rfl)
      clear hw he HR
      go_enter Tryz.func53, Tryz.ntmps53
      go_wp2_with fail
      refine C.mono ?_
      rintro e w1 ⟨rfl, hB⟩
      go_wp2
      go_ret3
      exact ⟨by rw [← HE.out]; rfl, hB⟩
    | ok p =>
      rw [hw] at C HR
      simp only at C HR
      obtain ⟨x, hx⟩ := HF.out.walk_node hw
      rw [hx] at HR
      simp only at HR
      have CN := fun w1 (hB : Below w.heap.size w w1) => (HH.out.later hB).node p x hx
      clear hw
      cases hd : x.dir with
      | false =>
        rw [hd] at HR
        have HE := Lib.hid (show Value.tuple #[.pointer none, .string ⟨#[]⟩, .int .i64 143] = R by rw [← HR.out]; rfl)
        go_enter Tryz.func53, Tryz.ntmps53
        go_wp2_with fail
        refine C.mono ?_
        rintro e w1 ⟨rfl, hB⟩
        have d1 := NObj.c1 (CN w1 hB).obj
        rw [hd] at d1
        clear CN hx hd HR
        go_wp2
        go_ret3
        exact ⟨by rw [← HE.out]; rfl, hB⟩
      | true =>
        rw [hd] at HR
        simp only [Bool.true_eq_false, if_false] at HR
        cases hlo : lookE x.names t with
        | some j =>
          rw [hlo] at HR
          have HE := Lib.hid (show Value.tuple #[.pointer none, .string ⟨#[]⟩, .int .i64 142] = R by rw [← HR.out]; rfl)
          go_enter Tryz.func53, Tryz.ntmps53
          go_wp2_with fail
          refine C.mono ?_
          rintro e w1 ⟨rfl, hB⟩
          have hN := CN w1 hB
          have d1 := NObj.c1 hN.obj
          rw [hd] at d1
          have hnm := hN.names
          rw [hd] at hnm
          obtain ⟨g, hg⟩ := hnm.isSome
          have d4 := NObj.c4 hN.obj
          rw [hg] at d4 hnm
          have hlk := hnm.look hsz
          rw [hlo] at hlk
          simp only [Option.getD_some, Option.isSome_some] at hlk
          clear CN hx hd HR hN hnm hlo
          go_wp2
          go_ret3
          exact ⟨by rw [← HE.out]; rfl, hB⟩
        | none =>
          rw [hlo] at HR
          simp only [Option.isSome_none, Bool.false_eq_true, if_false] at HR
          by_cases hlen : 60 ≤ x.names.length
          · rw [if_pos hlen] at HR
            have HE := Lib.hid (show Value.tuple #[.pointer none, .string ⟨#[]⟩, .int .i64 145] = R by rw [← HR.out]; rfl)
            go_enter Tryz.func53, Tryz.ntmps53
            go_wp2_with fail
            refine C.mono ?_
            rintro e w1 ⟨rfl, hB⟩
            have hN := CN w1 hB
            have d1 := NObj.c1 hN.obj
            rw [hd] at d1
            have hnm := hN.names
            rw [hd] at hnm
            obtain ⟨g, hg⟩ := hnm.isSome
            have d4 := NObj.c4 hN.obj
            rw [hg] at d4 hnm
            have hlk := hnm.look hsz
            rw [hlo] at hlk
            simp only [Option.getD_none, Option.isSome_none] at hlk
            have hln := fun ty => hnm.len ty
            have hge : ¬ (x.names.length : Int) < 60 := by omega
            have hge2 : (60 : Int) ≤ (x.names.length : Int) := by omega
            clear CN hx hd HR hN hnm hlo hlen
            go_wp2
            go_ret3
            exact ⟨by rw [← HE.out]; rfl, hB⟩
          · rw [if_neg hlen] at HR
            have HE := Lib.hid (show Value.tuple #[.pointer (some ⟨P p, 0, none⟩), .string t, .int .i64 0] = R by rw [← HR.out]; rfl)
            go_enter Tryz.func53, Tryz.ntmps53
            go_wp2_with fail
            refine C.mono ?_
            rintro e w1 ⟨rfl, hB⟩
            have hN := CN w1 hB
            have d1 := NObj.c1 hN.obj
            rw [hd] at d1
            have hnm := hN.names
            rw [hd] at hnm
            obtain ⟨g, hg⟩ := hnm.isSome
            have d4 := NObj.c4 hN.obj
            rw [hg] at d4 hnm
            have hlk := hnm.look hsz
            rw [hlo] at hlk
            simp only [Option.getD_none, Option.isSome_none] at hlk
            have hln := fun ty => hnm.len ty
            have hge : (x.names.length : Int) < 60 := by omega
            have hge2 : ¬ (60 : Int) ≤ (x.names.length : Int) := by omega
            clear CN hx hd HR hN hnm hlo hlen
            go_wp2
            go_ret3
            exact ⟨by rw [← HE.out]; rfl, hB⟩
set_option maxRecDepth 100000 in
set_option maxHeartbeats 1000000 in
theorem depth_any {s : ByteArray} (hs : s.size ≤ 281474976710656) {l : List ByteArray} (hp : IsPath s l) (w : World) :
    Calls Tryz.prog 57 #[.string s] w fun e w' => e = .returned (.int .i64 l.length) ∧ Below w.heap.size w w' := by
  have C := path_any s hs w
  have HP := Lib.hid hp
  clear hp
  go_enter Tryz.func57, Tryz.ntmps57
  go_wp2_with fail
  refine C.mono ?_
  rintro e w1 ⟨hE, hB⟩
  rcases hE with ⟨l', v, hp, rfl, hrow⟩ | ⟨hno, _⟩
  · obtain rfl := hp.uniq HP.out
    obtain ⟨a, cap, rfl, _⟩ := texts_of hrow
    clear hrow hp
    go_wp2
    go_ret
    exact ⟨rfl, hB⟩
  · exact absurd HP.out (hno l)
end
end Go.Proofs.YtfokdmijkniomaaGreatDoor

namespace Go.Proofs.YtfokdmijkniomaaGreatDoor
open Go.RowKit Go Go.Maps

section
variable {w w' w2 : World} {c m : Nat} {P : Int → Nat} {G : Int → Option Nat} {T : List Nod} {D : DataW Unit}
/-- one node turns -/
theorem TreeAt.turn (h : TreeAt c m P G T D w) {k : Int} {x y : Nod} (hx : nodeAt T k = some x) (hk : y.num = k) (S : Stir (fun b => b = P k ∨ G k = some b) w w2) (hy : NodeAt w2 (P k) (G k) y) :
    TreeAt c m P G (putN y T) D w2 := by
  have hyx : nodeAt T y.num = some x := by rw [hk, hx]
  refine ⟨S.keep h.obj (fun e => e.elim (h.c_P hx) (fun e => h.c_G hx e rfl)), owns_stay (by rw [lenN_put h.rise hyx]; exact h.map) S (fun e => e.elim (h.m_P hx) (fun e => h.apart k x hx e)),
    by rw [lenN_put h.rise hyx]; exact h.size, fun j z => ?_, fun j z hz => ?_, fun j z hz => ?_, fun i j z z' g hz hz' => ?_, h.rise.put y⟩
  · rw [h.look j z, at_put]
    by_cases e : y.num = j
    · rw [if_pos e, ← e, hyx]
    · rw [if_neg e]
  · rw [at_put] at hz
    split at hz
    · rename_i e
      cases hz
      rw [← e, hk]; exact hy
    · rename_i e
      have hjk : j ≠ k := fun e2 => e (by rw [hk, e2])
      refine (h.node j z hz).stay S (fun e2 => e2.elim (fun e2 => hjk (h.inj hz hx e2)) (fun e2 => h.P_G hz hx e2 rfl)) (fun g hg e2 => e2.elim (fun e2 => h.P_G hx hz hg e2.symm) (fun e2 => hjk (h.own j k z x g hz hx hg e2)))
  · rw [at_put] at hz
    split at hz
    · rename_i e
      rw [← e, hk]; exact h.apart k x hx
    · exact h.apart j z hz
  · have q : ∀ j z, nodeAt (putN y T) j = some z → ∃ z', nodeAt T j = some z' := fun j z hz => by
      rw [at_put] at hz
      split at hz
      · rename_i e
        exact ⟨x, by rw [← e]; exact hyx⟩
      · exact ⟨z, hz⟩
    obtain ⟨a, ha⟩ := q i z hz
    obtain ⟨b, hb⟩ := q j z' hz'
    exact h.own i j a b g ha hb
theorem foot_turn {y x : Nod} (hx : nodeAt T y.num = some x) {i : Nat} (h : FootT c m P G (putN y T) i) : FootT c m P G T i := by
  rcases h with h | h | ⟨k, z, hz, h⟩
  · exact .inl h
  · exact .inr (.inl h)
  · rw [at_put] at hz
    split at hz
    · rename_i e
      exact .inr (.inr ⟨k, x, by rw [← e]; exact hx, h⟩)
    · exact .inr (.inr ⟨k, z, hz, h⟩)
theorem stir_node {k : Int} {x : Nod} (hx : nodeAt T k = some x) {v v' : World} (S : Stir (fun b => b = P k ∨ G k = some b) v v') : Stir (FootT c m P G T) v v' :=
  S.weaken (fun _ hb => .inr (.inr ⟨k, x, hx, hb⟩))
/-- a directory's names turn -/
theorem TreeAt.renames (h : TreeAt c m P G T D w) {k : Int} {x : Nod} (hx : nodeAt T k = some x) {g : Nat} (hg : G k = some g) {l' : List Ent} (hN : NamesAt w2 x.dir l' (some g)) (ht : w.mapTurned w2 g) :
    TreeAt c m P G (putN { x with names := l' } T) D w2 ∧ Stir (FootT c m P G T) w w2 := by
  have S : Stir (fun b => b = P k ∨ G k = some b) w w2 := (Stir.refl _ w).turned (.inl (.inr hg)) ht
  have S1 : Stir (· = g) w w2 := (Stir.refl _ w).turned (.inl rfl) ht
  refine ⟨h.turn hx (at_mem hx).2 S ⟨?_, by rw [hg]; exact hN⟩, stir_node hx S⟩
  exact S1.keep (h.node k x hx).obj (h.P_G hx hx hg)
/-- a node's cell turns -/
theorem TreeAt.cell (h : TreeAt c m P G T D w) {k : Int} {x y : Nod} (hx : nodeAt T k = some x) (hk : y.num = k) (hd : y.dir = x.dir) (hn : y.names = x.names) {i : Nat} {v : Value}
    (ho : (w.setCell ⟨P k, i, none⟩ v).heap[P k]? = some (NObj y (G k))) : TreeAt c m P G (putN y T) D (w.setCell ⟨P k, i, none⟩ v) ∧ Stir (FootT c m P G T) w (w.setCell ⟨P k, i, none⟩ v) := by
  have S : Stir (fun b => b = P k ∨ G k = some b) w (w.setCell ⟨P k, i, none⟩ v) := (Stir.refl _ w).set (.inl (.inl rfl)) v
  have S1 : Stir (· = P k) w (w.setCell ⟨P k, i, none⟩ v) := (Stir.refl (· = P k) w).set (.inl rfl) v
  refine ⟨h.turn hx hk S ⟨ho, ?_⟩, stir_node hx S⟩
  rw [hd, hn]
  exact (h.node k x hx).names.stay S1 (fun g hg e => h.P_G hx hx hg e.symm)
/-- a node less -/
theorem TreeAt.less (h : TreeAt c m P G T D w) {k : Int} {x : Nod} (hx : nodeAt T k = some x) {n : Nat} (hm : w2.ownsMap Tryz.prog 3 ptrElem m n (D.del (litI k))) (ht : w.mapTurned w2 m) :
    TreeAt c m P G (dropN k T) (D.del (litI k)) w2 ∧ Stir (FootT c m P G T) w w2 := by
  have S : Stir (· = m) w w2 := Stir.turned (Stir.refl _ _) (.inl rfl) ht
  have hsz : Maps.size (D.del (litI k)) = (dropN k T).length := by
    have e1 := Maps.size_del (k := litI k) (h.map.tidy lawI)
    rw [h.has, hx, h.size] at e1
    have := lenN_drop h.rise hx
    simp at e1; omega
  have q : ∀ j z, nodeAt (dropN k T) j = some z → nodeAt T j = some z := fun j z hz => by
    rw [at_drop] at hz
    split at hz
    · cases hz
    · exact hz
  refine ⟨⟨S.keep h.obj h.c_m, by rw [← hsz]; exact owns_fit hm, hsz, fun j z => ?_, fun j z hz => (h.node j z (q j z hz)).stay S (fun e => h.m_P (q j z hz) e.symm) (fun g hg e => h.apart j z (q j z hz) (by rw [hg, e])),
    fun j z hz => h.apart j z (q j z hz), fun i j z z' g hz hz' => h.own i j z z' g (q i z hz) (q j z' hz'), h.rise.drop k⟩, S.weaken (fun b hb => .inr (.inl hb))⟩
  rw [at_drop]
  by_cases e : k = j
  · subst e; rw [if_pos rfl, atKey_del_same]
  · rw [if_neg e, atKey_del_other (fun e2 => e (litI_inj e2).symm), h.look j z]
theorem foot_less {k : Int} {i : Nat} (h : FootT c m P G (dropN k T) i) : FootT c m P G T i := by
  rcases h with h | h | ⟨j, z, hz, h⟩
  · exact .inl h
  · exact .inr (.inl h)
  · rw [at_drop] at hz
    split at hz
    · cases hz
    · exact .inr (.inr ⟨j, z, hz, h⟩)
/-- what a call leaves, of its parts -/
theorem LeftT.of {B : Nat} {F : Nat → Prop} {T' : List Nod} {P' : Int → Nat} {G' : Int → Option Nat} {D' : DataW Unit} (h : TreeAt c m P' G' T' D' w') (hF : ∀ k, F k ↔ FootT c m P G T k) (hB : ∀ k, F k → B ≤ k) (hc : c < w.heap.size)
    (S : Stir (FootT c m P G T) w w') (hs : ∀ i, FootT c m P' G' T' i → FootT c m P G T i ∨ w.heap.size ≤ i) : LeftT B F c T' w w' := by
  have hBc := hB c ((hF c).2 (.inl rfl))
  refine ⟨FootT c m P' G' T', ⟨m, P', G', D', h, fun _ => Iff.rfl, fun k hk => ?_⟩, S.weaken (fun b hb => (hF b).2 hb), fun k hk => ?_⟩
  · rcases hs k hk with h1 | h1
    · exact hB k ((hF k).2 h1)
    · omega
  · exact (hs k hk).imp (fun h1 => (hF k).2 h1) id
set_option maxRecDepth 100000 in
set_option maxHeartbeats 1000000 in
theorem free_any (h : TreeAt c m P G T D w) (hl : T.length ≤ 100000) :
    Calls Tryz.prog 54 #[.pointer (some ⟨c, 0, none⟩)] w fun e w' => e = .returned (.int .i64 (freeV T)) ∧ Below w.heap.size w w' := by
  have c0 := TObj.c0 h.obj
  have hr := h.rise
  have LK := fun (k : Int) (hk : IntOk k) => h.lookup hk
  have HF := Lib.hid (free_is hr)
  have HR := Lib.hid hr
  have HL := Lib.hid (show ∀ n : Nat, (∀ j, 2 ≤ j → j < 2 + (n : Int) → (nodeAt T j).isSome = true) → n ≤ T.length from fun n hn => by
    have := taken_le HR.out n hn
    have := occ_le T (2 + n)
    omega)
  have HLK := Lib.hid LK
  clear h hr LK
  go_enter Tryz.func54, Tryz.ntmps54
  go_wp2
  go_loopw [3] (fun n wr => ∃ j : Nat, n = .int .i64 (2 + (j : Int)) ∧ Hid (∀ i, 2 ≤ i → i < 2 + (j : Int) → (nodeAt T i).isSome = true) ∧ wr = w) (fun n _ => T.length + 2 - (intOf n).toNat)
  case atStart => exact ⟨0, rfl, Lib.hid (fun i h1 h2 => by omega), rfl⟩
  case round =>
    obtain ⟨j, rfl, HJ, rfl⟩ := hrel
    have hjl := HL.out j HJ.out
    have hlk := HLK.out (2 + (j : Int)) ⟨by omega, by omega⟩
    unfold nodeP at hlk
    cases hn : nodeAt T (2 + (j : Int)) with
    | none =>
      rw [hn] at hlk
      simp only [Option.isSome_none, Bool.false_eq_true, if_false] at hlk
      have HE := Lib.hid (HF.out.uniq (k := 2 + (j : Int)) ⟨by omega, hn, HJ.out⟩)
      clear hn hjl
      go_wp2
      go_ret
      exact ⟨by rw [HE.out]; rfl, Below.refl _ _⟩
    | some x =>
      rw [hn] at hlk
      simp only [Option.isSome_some, if_true] at hlk
      have HJ2 := Lib.hid (show ∀ i, 2 ≤ i → i < 2 + ((j + 1 : Nat) : Int) → (nodeAt T i).isSome = true from fun i h1 h2 => by
        by_cases e : i = 2 + (j : Int)
        · rw [e, hn]; rfl
        · exact HJ.out i h1 (by omega))
      have hj2 := HL.out (j + 1) HJ2.out
      clear hn hjl
      go_wp2
      go_roundw
      case rel => exact ⟨j + 1, (by congr 1 <;> omega), HJ2, by trivial⟩
      case measure => simp [intOf]; omega
/-- a name is taken away -/
theorem unname_any (h : TreeAt c m P G T D w) (hF : Formed T) {s : ByteArray} (hs : s.size ≤ 281474976710656) {l : List ByteArray} (hp : IsPath s l) (hl : l ≠ []) {k : Int} (hw : walkE T 1 l = .ok k) :
    Calls Tryz.prog 58 #[.pointer (some ⟨c, 0, none⟩), .string s] w fun e w' => e = .returned (.tuple #[]) ∧ TreeAt c m P G (nameDel T (upOf T l) (lastOf l)) D w' ∧ Stir (FootT c m P G T) w w' := by
  have C := parent_any h hF hs hp hl
  obtain ⟨e1, e2, e3⟩ := up_ok hl hw
  unfold parentRes at C
  rw [e2] at C
  simp only at C
  obtain ⟨x, hx, hd, hlo⟩ := step_ok.1 e3
  have hsz : (lastOf l).size ≤ maxLen := (path_names hp).2 _ (by
    rw [e1]; rw [← e1]; exact List.mem_of_getLast? (by
      rcases snoc_cases l with rfl | ⟨a, t, rfl⟩
      · exact absurd rfl hl
      · simp [lastOf]))
  have hr := hF.riseE (at_mem hx).1
  have HH := Lib.hid h
  have HX := Lib.hid hx
  have HLO := Lib.hid hlo
  have HR := Lib.hid hr
  have HD := Lib.hid hd
  have hu : nameDel T (upOf T l) (lastOf l) = putN { x with names := delE (lastOf l) x.names } T := by unfold nameDel; rw [hx]
  rw [hu]
  clear h hF hx hlo hr e1 e2 e3 hu hd hw hl hp
  generalize upOf T l = p at *
  generalize lastOf l = t at *
  go_enter Tryz.func58, Tryz.ntmps58
  go_wp2_with fail
  refine C.mono ?_
  rintro e w1 ⟨rfl, hB⟩
  have h1 := HH.out.later hB
  have hN := h1.node p x HX.out
  have hnm := hN.names
  have d4 := NObj.c4 hN.obj
  obtain ⟨g, hg⟩ : ∃ g, G p = some g := by
    rw [HD.out] at hnm
    exact hnm.isSome
  rw [hg] at d4 hnm
  obtain ⟨w2, hdel, hN2, ht⟩ := hnm.del HR.out hsz HLO.out 0
  obtain ⟨r1, r2⟩ := h1.renames HX.out hg hN2 ht
  have HE := Lib.hid (And.intro r1 ((Stir.of_below (F := FootT c m P G T) hB).trans r2 (fun _ h => .inl h)))
  clear h1 hN hnm hN2 ht r1 r2 hB
  go_wp2
  go_end0
  exact ⟨rfl, HE.out⟩
end
end Go.Proofs.YtfokdmijkniomaaGreatDoor

