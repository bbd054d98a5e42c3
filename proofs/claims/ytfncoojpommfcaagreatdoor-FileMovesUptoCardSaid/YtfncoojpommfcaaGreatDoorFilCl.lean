/-
  A tree: Clone.
-/
import Derived.Test.YtfncoojpommfcaaGreatDoorFilFr
import Derived.Test.YtfncoojpommfcaaGreatDoorFilLay
import Derived.OwnWalk
namespace Go.Proofs.YtfncoojpommfcaaGreatDoor
open Go.RowKit Go Go.Maps

def zeroX : Nod := ⟨0, false, 0, ⟨#[]⟩, []⟩
/-- a node is stored, cell by cell -/
theorem nod_store {z : Nod} (r : Nod) {q p : Option Nat} {b : Nat} {w : World} (h : w.heap[b]? = some (NObj z q)) : ∃ u1 u2 u3 u4 u5,
    (w.setCell ⟨b, 0, none⟩ (.int .i64 r.num) = u1 ∧ u1.setCell ⟨b, 1, none⟩ (.bool r.dir) = u2 ∧ u2.setCell ⟨b, 2, none⟩ (.int .i64 r.links) = u3 ∧ u3.setCell ⟨b, 3, none⟩ (.string r.data) = u4 ∧ u4.setCell ⟨b, 4, none⟩ (.map p) = u5) ∧
    (w.cell? ⟨b, 0, none⟩ = some (.int .i64 z.num) ∧ u1.cell? ⟨b, 1, none⟩ = some (.bool z.dir) ∧ u2.cell? ⟨b, 2, none⟩ = some (.int .i64 z.links) ∧ u3.cell? ⟨b, 3, none⟩ = some (.string z.data) ∧ u4.cell? ⟨b, 4, none⟩ = some (.map q)) ∧
    (w.frozen? ⟨b, 0, none⟩ = false ∧ u1.frozen? ⟨b, 1, none⟩ = false ∧ u2.frozen? ⟨b, 2, none⟩ = false ∧ u3.frozen? ⟨b, 3, none⟩ = false ∧ u4.frozen? ⟨b, 4, none⟩ = false) ∧ u5.heap[b]? = some (NObj r p) ∧ Stir (fun i => i = b) w u5 := by
  unfold NObj at h
  obtain ⟨u1, e1⟩ : ∃ u, w.setCell ⟨b, 0, none⟩ (.int .i64 r.num) = u := ⟨_, rfl⟩
  have h1 : u1.heap[b]? = some (.cells #[.int .i64 r.num, .bool z.dir, .int .i64 z.links, .string z.data, .map q] 69 (0, 0)) := by rw [← e1, heap_set h]; rfl
  obtain ⟨u2, e2⟩ : ∃ u, u1.setCell ⟨b, 1, none⟩ (.bool r.dir) = u := ⟨_, rfl⟩
  have h2 : u2.heap[b]? = some (.cells #[.int .i64 r.num, .bool r.dir, .int .i64 z.links, .string z.data, .map q] 69 (0, 0)) := by rw [← e2, heap_set h1]; rfl
  obtain ⟨u3, e3⟩ : ∃ u, u2.setCell ⟨b, 2, none⟩ (.int .i64 r.links) = u := ⟨_, rfl⟩
  have h3 : u3.heap[b]? = some (.cells #[.int .i64 r.num, .bool r.dir, .int .i64 r.links, .string z.data, .map q] 69 (0, 0)) := by rw [← e3, heap_set h2]; rfl
  obtain ⟨u4, e4⟩ : ∃ u, u3.setCell ⟨b, 3, none⟩ (.string r.data) = u := ⟨_, rfl⟩
  have h4 : u4.heap[b]? = some (.cells #[.int .i64 r.num, .bool r.dir, .int .i64 r.links, .string r.data, .map q] 69 (0, 0)) := by rw [← e4, heap_set h3]; rfl
  obtain ⟨u5, e5⟩ : ∃ u, u4.setCell ⟨b, 4, none⟩ (.map p) = u := ⟨_, rfl⟩
  have h5 : u5.heap[b]? = some (NObj r p) := by rw [← e5, heap_set h4]; rfl
  refine ⟨u1, u2, u3, u4, u5, ⟨e1, e2, e3, e4, e5⟩, ⟨?_, ?_, ?_, ?_, ?_⟩, ⟨?_, ?_, ?_, ?_, ?_⟩, h5, ?_⟩
  · simp [World.cell?, h]
  · simp [World.cell?, h1]
  · simp [World.cell?, h2]
  · simp [World.cell?, h3]
  · simp [World.cell?, h4]
  · simp [World.frozen?, h]
  · simp [World.frozen?, h1]
  · simp [World.frozen?, h2]
  · simp [World.frozen?, h3]
  · simp [World.frozen?, h4]
  · rw [← e5, ← e4, ← e3, ← e2, ← e1]
    exact (((((Stir.refl (fun i => i = b) w).set (.inl rfl) _).set (.inl rfl) _).set (.inl rfl) _).set (.inl rfl) _).set (.inl rfl) _
/-- maps.Clone of a node's names -/
theorem names_clone {d : Bool} {l : List Ent} {p : Option Nat} {w : World} (h : NamesAt w d l p) :
    Calls Tryz.prog 30 #[.map p] w fun e w' => ∃ q, e = .returned (.map q) ∧ NamesAt w' d l q ∧ (∀ g, q = some g → w.heap.size ≤ g) ∧ Below w.heap.size w w' := by
  cases p with
  | none =>
    have C : Calls Tryz.prog 30 #[.map none] w fun e w' => e = .returned (.map none) ∧ w' = w := AnyW.maps_Clone_nil Tryz.cloneM w
    refine C.mono ?_
    rintro e w' ⟨he, rfl⟩
    exact ⟨none, he, h, (fun g hg => by cases hg), Below.refl _ _⟩
  | some g =>
    obtain ⟨h1, D, h2, h3, h4⟩ := h
    have C : Calls Tryz.prog 30 #[.map (some g)] w fun e w' => e = .returned (.map (some w.heap.size)) ∧ w'.ownsMap Tryz.prog 9 intElem w.heap.size l.length D ∧ w'.ownsMap Tryz.prog 9 intElem g l.length D ∧ Below w.heap.size w w' :=
      AnyW.maps_Clone_owns Tryz.cloneM 9 intElem g l.length D w h2
    refine C.mono ?_
    rintro e w' ⟨he, k1, k2, k3⟩
    exact ⟨some w.heap.size, he, ⟨h1, D, k1, h3, h4⟩, (fun g hg => by cases hg; exact Nat.le_refl _), k3⟩
section
variable {w w' w2 : World} {c m : Nat} {P : Int → Nat} {G : Int → Option Nat} {T : List Nod} {D : DataW Unit}
/-- what stands behind a number of nodes -/
structure CloneAt (w w' : World) (m r c2 m2 : Nat) (T : List Nod) (D : DataW Unit) (left : Lit → Bool) (cnt' : Nat) : Prop where
  rng : w'.ranges Tryz.prog 3 ptrElem m r T.length D left cnt'
  tree : ∃ P G U E, TreeAt c2 m2 P G U E w' ∧ (∀ k, nodeAt U k = if left (litI k) = true then none else nodeAt T k) ∧ (∀ i, FootT c2 m2 P G U i → w.heap.size ≤ i ∧ i ≠ r)
  below : Below w.heap.size w w'
theorem len_sub {T U : List Nod} (hU : RiseN U) (h : ∀ k x, nodeAt U k = some x → nodeAt T k = some x) : U.length ≤ T.length := by
  have h1 : (U.map Nod.num).Nodup := List.pairwise_map.2 (List.Pairwise.imp (fun {a b} h e => by rw [e, ordI.irr] at h; cases h) hU)
  have := sub_len h1 (m := T.map Nod.num) fun k hk => by
    obtain ⟨x, hx, rfl⟩ := List.mem_map.1 hk
    exact List.mem_map.2 ⟨x, (at_mem (h _ _ (hU.at hx))).1, rfl⟩
  simpa using this
set_option maxRecDepth 100000 in
set_option maxHeartbeats 8000000 in
theorem tclone_any (h : TreeAt c m P G T D w) (hF : Formed T) :
    Calls Tryz.prog 13 #[.pointer (some ⟨c, 0, none⟩)] w fun r w' => ∃ d F, r = .returned (.pointer (some ⟨d, 0, none⟩)) ∧ TreeIs w.heap.size F d T w' ∧ Below w.heap.size w w' := by
  obtain ⟨w1, hw1⟩ : ∃ w1, w.alloc (.map #[] 0) = w1 := ⟨_, rfl⟩
  have hB1 : Below w.heap.size w w1 := by rw [← hw1]; exact (Below.refl _ w).alloc (Nat.le_refl _) _
  have hs1 : w1.heap.size = w.heap.size + 1 := by rw [← hw1]; exact Array.size_push _
  have m1 : w1.ownsMap Tryz.prog 3 ptrElem w.heap.size 0 (.map []) := by rw [← hw1]; exact World.ownsMap_made w _ _ _
  obtain ⟨w2, hw2⟩ : ∃ w2, w1.alloc (TObj w.heap.size) = w2 := ⟨_, rfl⟩
  have hB2 : Below w1.heap.size w1 w2 := by rw [← hw2]; exact (Below.refl _ w1).alloc (Nat.le_refl _) _
  have hs2 : w2.heap.size = w1.heap.size + 1 := by rw [← hw2]; exact Array.size_push _
  have o2 : w2.heap[w1.heap.size]? = some (TObj w.heap.size) := by rw [← hw2]; exact heap_alloc_new w1 _
  have h2 : TreeAt w1.heap.size w.heap.size (fun _ => 0) (fun _ => none) [] (.map []) w2 :=
    ⟨o2, owns_stay m1 (Stir.of_below (F := fun _ => False) hB2) (fun f => f), rfl, fun _ _ => rfl, fun k x hx => (by cases hx), fun k x hx => (by cases hx), fun i j x y g hx => (by cases hx), List.Pairwise.nil⟩
  have hB : Below w.heap.size w w2 := hB1.trans (hB2.mono hB1.size)
  have k2 := h.later hB
  have c0 := TObj.c0 k2.obj
  have hmap := k2.map
  have HB := Lib.hid hB
  have HH := Lib.hid h
  have HF := Lib.hid hF
  have HT2 := Lib.hid h2
  have HSZ := Lib.hid (show w1.heap.size = w.heap.size + 1 ∧ w2.heap.size = w.heap.size + 2 by omega)
  have hmm := @run_makeMap Tryz.prog
  unfold TObj at hw2
  clear h hF hB1 hs1 m1 hB2 hs2 o2 h2 hB k2
  go_enter Tryz.func13, Tryz.ntmps13
  go_wp2_with (at_range; refine wpList_range_own _ rfl _ 62 rfl 3 66 lawI Tryz.underlying62 _ m T.length D rfl hmap ?_; intro w0 hrg0 hg0 hs0)
  try go_frame
  have hB0 : Below w2.heap.size w2 w0 := ⟨hg0.os, hg0.tape, hg0.output, hg0.size, fun k hk => hg0.block k hk (by simp)⟩
  have HCA := Lib.hid (show CloneAt w w0 m w2.heap.size w1.heap.size w.heap.size T D (Maps.has D) (Maps.size D) from
    ⟨hrg0, ⟨_, _, [], _, HT2.out.later hB0, fun k => (by
      rw [HH.out.has]
      cases nodeAt T k with
      | none => rfl
      | some x => rfl), fun i hi => (by
      have := HSZ.out
      rcases hi with rfl | rfl | ⟨k, x, hx, _⟩
      · omega
      · omega
      · cases hx)⟩, HB.out.trans (hB0.mono HB.out.size)⟩)
  clear hrg0 hg0 hs0 hB0 hmap c0 hmm
  go_loopw [15] (fun _ wr => ∃ left cnt1, Hid (CloneAt w wr m w2.heap.size w1.heap.size w.heap.size T D left cnt1)) (fun _ wr => wr.rangeLeft m w2.heap.size)
  case atStart => exact ⟨_, _, HCA⟩
  case round =>
    clear HCA
    obtain ⟨left, cnt1, HA⟩ := hrel
    have hrg := HA.out.rng
    go_wp2_with (at_next; refine wpList_next_nodes _ rfl _ rfl m w2.heap.size T.length D P T HH.out.look _ _ rfl hrg ?_ ?_)
    · intro _ hl0
      obtain ⟨P2, G2, U, E, ht, hat, hft⟩ := HA.out.tree
      have hUT : U = T := RiseN.ext ht.rise HH.out.rise fun k => by rw [hat, hl0]; rfl
      subst hUT
      have HFin := Lib.hid (show TreeIs w.heap.size (FootT w1.heap.size w.heap.size P2 G2 U) w1.heap.size U wr from ⟨_, _, _, _, ht, fun _ => Iff.rfl, fun i hi => (hft i hi).1⟩)
      clear ht hat hft hl0 hrg
      go_wp2
      go_ret
      exact ⟨_, _, rfl, HFin.out, HA.out.below⟩
    · intro x w4 cnt2 hx hlf hrg1 hlt hg1 hsz1 hen
      have hsz := HSZ.out
      have hml := HH.out.lt (.inr (.inl rfl))
      have hB4 : Below w.heap.size w w4 := ⟨hg1.os.trans HA.out.below.os, hg1.tape.trans HA.out.below.tape, hg1.output.trans HA.out.below.output, by rw [hsz1]; exact HA.out.below.size, fun i hi => (hg1.block i (Nat.lt_of_lt_of_le hi HA.out.below.size) (by simp; omega)).trans (HA.out.below.block i hi)⟩
      have S4 : Stir (fun i => i = w2.heap.size) wr w4 := ⟨hg1.os, hg1.tape, hg1.output, Nat.le_of_eq hsz1.symm, fun i hi hn => hg1.block i hi (by simp; exact hn)⟩
      obtain ⟨P2, G2, U, E, ht, hat, hft⟩ := HA.out.tree
      have ht4 := ht.stay S4 (fun i hi e => (hft i hi).2 e)
      have h4 := HH.out.later hB4
      have o4 := h4.node _ x hx
      have a0 := NObj.c0 o4.obj
      have a1 := NObj.c1 o4.obj
      have a2 := NObj.c2 o4.obj
      have a3 := NObj.c3 o4.obj
      have a4 := NObj.c4 o4.obj
      have hrs : w2.heap.size < w4.heap.size := by rw [hsz1]; exact HA.out.rng.lt
      obtain ⟨w5, hw5⟩ : ∃ w5, w4.alloc (NObj zeroX none) = w5 := ⟨_, rfl⟩
      have hB5 : Below w4.heap.size w4 w5 := by rw [← hw5]; exact (Below.refl _ w4).alloc (Nat.le_refl _) _
      have o5 : w5.heap[w4.heap.size]? = some (NObj zeroX none) := by rw [← hw5]; exact heap_alloc_new w4 _
      obtain ⟨u1, u2, u3, u4, u5, ⟨e1, e2, e3, e4, e5⟩, ⟨s1, s2, s3, s4, s5⟩, ⟨f1, f2, f3, f4, f5⟩, ho5, hs5⟩ := nod_store (p := G x.num) x o5
      have hBu : Below w4.heap.size w4 u5 := ((Stir.of_below (F := fun _ => False) hB5).trans hs5 (fun i hi => .inr (by omega))).below (fun _ f => f.elim) (Nat.le_refl _)
      have hu5 := h4.later hBu
      have b4 := NObj.c4 (hu5.node _ x hx).obj
      have CC := names_clone (hu5.node _ x hx).names
      have HA4 := Lib.hid ht4
      have HAT := Lib.hid hat
      have HFT := Lib.hid hft
      have HB4 := Lib.hid hB4
      have HBU := Lib.hid hBu
      have HO5 := Lib.hid ho5
      have HRG := Lib.hid hrg1
      have HLT := Lib.hid hlt
      have HLE := Lib.hid hrg.left_eq
      have HX := Lib.hid hx
      have HLF := Lib.hid hlf
      have HRS := Lib.hid hrs
      have HZU := Lib.hid (show w4.heap.size < u5.heap.size from lt_of_heap ho5)
      obtain ⟨q0, hq0⟩ : ∃ q, G x.num = q := ⟨_, rfl⟩
      rw [hq0] at e5 a4 b4 CC
      unfold NObj zeroX at hw5
      unfold zeroX at s1 s2 s3 s4
      simp only at hw5 s1 s2 s3 s4 s5
      clear hrg hrg1 hlt hg1 hsz1 hB4 S4 ht ht4 hat hft h4 o4 hB5 o5 hs5 hBu hu5 hx hlf hrs ho5 hml hsz hq0
      go_wp2_with fail
      refine CC.mono ?_
      rintro e w6 ⟨q, rfl, hnq, hqn, hB6⟩
      have o6 : w6.heap[w4.heap.size]? = some (NObj x (G x.num)) := keeps_of hB6 HO5.out
      have t4 := NObj.c4 o6
      have g4 := NObj.fr o6 4
      obtain ⟨w7, hw7⟩ : ∃ w7, w6.setCell ⟨w4.heap.size, 4, none⟩ (.map q) = w7 := ⟨_, rfl⟩
      have o7 : w7.heap[w4.heap.size]? = some (NObj x q) := by rw [← hw7, heap_set o6]; rfl
      have S7 : Stir (fun i => i = w4.heap.size) w6 w7 := by rw [← hw7]; exact (Stir.refl (fun i => i = w4.heap.size) w6).set (.inl rfl) _
      have hB46 : Below w4.heap.size w4 w6 := HBU.out.trans (hB6.mono HBU.out.size)
      have hB47 : Below w4.heap.size w4 w7 := ((Stir.of_below (F := fun _ => False) hB46).trans S7 (fun i hi => .inr (by omega))).below (fun _ f => f.elim) (Nat.le_refl _)
      have n7 : NodeAt w7 w4.heap.size q x := ⟨o7, hnq.stay S7 (fun g hg e => by have := hqn g hg; have := HZU.out; omega)⟩
      have ht7 := HA4.out.later hB47
      have hnew : nodeAt U x.num = none := by rw [HAT.out, HLF.out]; rfl
      have hxn := HF.out.num x (at_mem HX.out).1
      have hU60 : U.length ≤ 60 := Nat.le_trans (len_sub HA4.out.rise (T := T) fun k y hy => by
        rw [HAT.out] at hy
        split at hy
        · cases hy
        · exact hy) HF.out.len
      obtain ⟨w8, hrun, hm8, ht8⟩ := ht7.map.store lawI Tryz.underlying62 (by unfold maxLen; omega) (keyI (k := x.num) ⟨by omega, by omega⟩) (val := .pointer (some ⟨w4.heap.size, 0, none⟩)) (d := .lit (.int .i64 w4.heap.size)) (ps := []) rfl
      have h8 := ht7.put hnew n7 (fun g hg f => by have := hqn g hg; have := HA4.out.lt f; have := HZU.out; omega) hm8 ht8
      have hB7 : Below w.heap.size w w7 := HB4.out.trans (hB47.mono HB4.out.size)
      have hB8 : Below w.heap.size w w8 := ((Stir.of_below (F := fun _ => False) hB7).turned (.inr (Nat.le_refl _)) ht8).below (fun _ f => f.elim) (Nat.le_refl _)
      have rg7 : w7.ranges Tryz.prog 3 ptrElem m w2.heap.size T.length D (fun z => left z && !z.sameKey (litI x.num)) cnt2 := HRG.out.kept (row := none) ⟨hB47.os, hB47.tape, hB47.output, hB47.size, fun k hk _ => hB47.block k hk⟩ (by simp) (by simp)
      have hml := HH.out.lt (.inr (.inl rfl))
      have hsz := HSZ.out
      have rg8 := rg7.kept ht8.grown (by simp; omega) (by simp; omega)
      have HC8 := Lib.hid (show CloneAt w w8 m w2.heap.size w1.heap.size w.heap.size T D (fun z => left z && !z.sameKey (litI x.num)) cnt2 from
        ⟨rg8, ⟨_, _, _, _, h8, fun k => (by
          rw [at_put, HAT.out]
          by_cases e : x.num = k
          · subst e
            rw [if_pos rfl, litI_self, HX.out]; simp
          · rw [if_neg e, litI_other (fun e2 => e e2.symm)]; simp), fun i hi => (by
          have hb := HB4.out.size
          have hr := HRS.out
          rcases foot_put hi with h | h | h
          · exact HFT.out i h
          · omega
          · have := hqn i h; have := HZU.out; omega)⟩, hB8⟩)
      have HM := Lib.hid (show w8.rangeLeft m w2.heap.size < wr.rangeLeft m w2.heap.size by rw [rg8.left_eq, HLE.out]; exact HLT.out)
      have c7 := TObj.c0 ht7.obj
      clear ht7 hnew hxn hU60 hm8 ht8 h8 hB7 hB8 rg7 hml hsz rg8 o6 o7 S7 hB46 hB47 n7 hnq hqn hB6 CC
      go_wp2
      go_roundw
      case rel => exact ⟨_, _, HC8⟩
      case measure => exact HM.out
end
end Go.Proofs.YtfncoojpommfcaaGreatDoor

