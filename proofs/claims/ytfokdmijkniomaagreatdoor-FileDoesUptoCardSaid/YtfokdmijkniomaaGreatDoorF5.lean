/-
  FilS / FilU / FilNd.
-/
import Derived.Test.YtfokdmijkniomaaGreatDoorFilH
import Derived.Sort.KeysCollected
import Derived.Lib.SlKeysI
import Derived.Test.YtfokdmijkniomaaGreatDoorFilLay
import Derived.Lib.SmallJoins
import Derived.Test.YtfokdmijkniomaaGreatDoorFilV
namespace Go.Proofs.YtfokdmijkniomaaGreatDoor
open Go.RowKit Go Go.Maps

theorem names_perm {D : DataW Unit} {l : List Ent} (hD : ReadsN D l) (hr : RiseE l) {w : World} {b n : Nat} (hown : w.ownsMap Tryz.prog 9 intElem b n D) : (l.map fun e => e.name.data.toList).Perm (strKeys D) := by
  obtain ⟨es, hE, hpw, _⟩ := hown.entries lawS
  obtain ⟨es', hE', hko⟩ := hown.keysOf
  obtain rfl : es = es' := by rw [hE] at hE'; simpa using hE'
  subst hE
  refine perm_strKeys hpw (fun p hp => by obtain ⟨v, hv⟩ := hko p hp; obtain ⟨x, _, hx, _⟩ := Maps.keyOf_str Tryz.underlying9 hv; exact ⟨x, hx⟩) ?_ (fun x => ?_)
  · refine List.pairwise_map.2 (hr.imp fun {a b} h e => ?_)
    rw [ba_ext e, ordB.irr] at h; cases h
  · have e : (Lit.string x) = litS (bs x) := by unfold litS; rw [bs_list]
    rw [e, hD.has]
    constructor
    · intro h
      obtain ⟨en, hen, he⟩ := List.mem_map.1 h
      have : bs x = en.name := by rw [← he, bs_self]
      rw [this, RiseE.look hr hen]; rfl
    · intro h
      obtain ⟨k, hk⟩ := Option.isSome_iff_exists.1 h
      exact List.mem_map.2 ⟨_, look_mem hk, by simp only; rw [bs_list]⟩
theorem names_sorted {D : DataW Unit} {l : List Ent} (hD : ReadsN D l) (hr : RiseE l) {w : World} {b n : Nat} (hown : w.ownsMap Tryz.prog 9 intElem b n D) {ss : List (List UInt8)} (hs : ss.Perm (strKeys D)) :
    ss.mergeSort (fun x y => decide (x ≤ y)) = l.map fun e => e.name.data.toList := by
  rw [mergeSort_of_perm (hs.trans (names_perm hD hr hown).symm)]
  refine List.mergeSort_of_pairwise (List.pairwise_map.2 (hr.imp fun {a b} h => ?_))
  unfold ltB at h
  rw [bl_lt, Lib.toList_data, Lib.toList_data] at h
  simp only [decide_eq_true_eq] at h ⊢
  exact List.le_of_lt h
theorem nums_perm {D : DataW Unit} {P : Int → Nat} {T : List Nod} (hD : ReadsT D P T) (hr : RiseN T) {w : World} {b n : Nat} (hown : w.ownsMap Tryz.prog 3 ptrElem b n D) : (T.map Nod.num).Perm (intKeys D) := by
  obtain ⟨es, hE, hpw, _⟩ := hown.entries lawI
  obtain ⟨es', hE', hko⟩ := hown.keysOf
  obtain rfl : es = es' := by rw [hE] at hE'; simpa using hE'
  subst hE
  have hhas : ∀ k, Maps.has (.map es) (litI k) = (nodeAt T k).isSome := fun k => by
    cases e : nodeAt T k with
    | none => exact Maps.has_false_of_atKey (fun z => by rw [hD k z, e])
    | some x => exact Maps.has_true_of_atKey (y := .lit (.int .i64 (P k))) (fun z => by rw [hD k z, e])
  refine perm_intKeys hpw (fun p hp => by obtain ⟨v, hv⟩ := hko p hp; obtain ⟨x, _, hx, _⟩ := Maps.keyOf_i64 Tryz.underlying3 hv; exact ⟨x, hx⟩) ?_ (fun x => ?_)
  · refine List.pairwise_map.2 (hr.imp fun {a b} h e => ?_)
    rw [e, ordI.irr] at h; cases h
  · show _ ↔ Maps.has (.map es) (litI x) = true
    rw [hhas]
    constructor
    · intro h
      obtain ⟨y, hy, he⟩ := List.mem_map.1 h
      rw [← he, hr.at hy]; rfl
    · intro h
      obtain ⟨y, hy⟩ := Option.isSome_iff_exists.1 h
      exact List.mem_map.2 ⟨y, (at_mem hy).1, (at_mem hy).2⟩
theorem nums_sorted {D : DataW Unit} {P : Int → Nat} {T : List Nod} (hD : ReadsT D P T) (hr : RiseN T) {w : World} {b n : Nat} (hown : w.ownsMap Tryz.prog 3 ptrElem b n D) {ss : List Int} (hs : ss.Perm (intKeys D)) :
    ss.mergeSort (fun x y => decide (x ≤ y)) = T.map Nod.num := by
  rw [mergeSort_of_perm_i (hs.trans (nums_perm hD hr hown).symm)]
  refine List.mergeSort_of_pairwise (List.pairwise_map.2 (hr.imp fun {a b} h => ?_))
  simp only [ltI, decide_eq_true_eq] at h ⊢
  omega
end Go.Proofs.YtfokdmijkniomaaGreatDoor

namespace Go.Proofs.YtfokdmijkniomaaGreatDoor
open Go.RowKit Go Go.Maps Go.Sort Go.Shelf

theorem sortsS (m : Nat) : AnyZ.SortsIn Tryz.prog Tryz.sortedS_ren Fence.wide m :=
  ⟨fun blk off cap ss W hH hblk hsz => callsIn_wide.2 (AnyM.slices_Sort_string Tryz.sortS blk off cap ss W hH hblk hsz),
   fun p cap W => callsIn_wide.2 (AnyM.slices_Sort_string_none Tryz.sortS p cap W)⟩
theorem sortsI (m : Nat) : AnyZI.SortsIn Tryz.prog Tryz.sortedI_ren Fence.wide m :=
  ⟨fun blk off cap ss W hH hblk hsz => callsIn_wide.2 (AnyM.slices_Sort_int Tryz.sortI blk off cap ss W hH hblk hsz),
   fun p cap W => callsIn_wide.2 (AnyM.slices_Sort_int_none Tryz.sortI p cap W)⟩
theorem keysS_any (mb : Option Nat) (W : World) : Calls Tryz.prog 46 #[.map mb] W fun e w' =>
    e = .returned (.func (.func 76) #[] #[.pointer (some ⟨W.heap.size, 0, none⟩)]) ∧ w' = W.alloc (.cells #[.map mb] 56) :=
  callsIn_wide.1 (AnyZ.keys_in Tryz.keysS Fence.wide 5 trivial rfl mb W)
theorem keysI_any (mb : Option Nat) (W : World) : Calls Tryz.prog 38 #[.map mb] W fun e w' =>
    e = .returned (.func (.func 69) #[] #[.pointer (some ⟨W.heap.size, 0, none⟩)]) ∧ w' = W.alloc (.cells #[.map mb] 51) :=
  callsIn_wide.1 (AnyZI.keys_in Tryz.keysI Fence.wide 5 trivial rfl mb W)
set_option maxHeartbeats 1000000 in
/-- the sorted names -/
theorem sortedS_any {b : Nat} {l : List Ent} {w : World} (h : NamesAt w true l (some b)) (hr : RiseE l) (hl : l.length ≤ 100000) :
    Calls Tryz.prog 45 #[.func (.func 76) #[] #[.pointer (some ⟨w.heap.size, 0, none⟩)]] (w.alloc (.cells #[.map (some b)] 56)) fun e w' =>
      ∃ v, e = .returned v ∧ w'.ownsRow w.heap.size 9 1 v l.length (strVals (l.map Ent.name)) ∧ Below w.heap.size w w' := by
  obtain ⟨_, D, hown, hsz, hrd⟩ := h
  have hbl := hown.lt
  have hmax : Maps.size D ≤ maxLen := by unfold maxLen; omega
  have hbytes : Maps.size D * 16 ≤ 140737488355328 := by omega
  have hseq : SeqGives Fence.wide 2 Tryz.prog 76 #[.pointer (some ⟨w.heap.size, 0, none⟩)] encStr (fun ss => ss.Perm (strKeys D)) (Maps.size D) (w.alloc (.cells #[.map (some b)] 56)) :=
    AnyZ.keys_gives (ρ := Tryz.keysS_ren) { Tryz.keysS with } Fence.wide _ trivial rfl (by omega) w.heap.size b l.length D _ (by simp) (by simp) (by
      obtain ⟨es, clock, hb, Ft, hs, hD⟩ := hown
      exact ⟨es, clock, (Below.heap_alloc _ _ b hbl).trans hb, Ft, hs, hD⟩)
  have cS := AnyZ.sorted_in Tryz.sortedS Fence.wide 5 trivial trivial trivial trivial rfl (by omega) (sortsS _) (enters_of Tryz.func75 (by kernel_rfl) rfl) 76 #[.pointer (some ⟨w.heap.size, 0, none⟩)] trivial (enters_of Tryz.func76 (by kernel_rfl) rfl) _ _ hmax hbytes _ hseq
  refine (callsIn_wide.1 cS).mono ?_
  rintro e w' ⟨v, ss, rfl, hS, hrow, hnil, hb⟩
  have hB : Below w.heap.size w w' := ((Below.refl _ w).alloc (Nat.le_refl _) _).trans (hb.mono (by simp))
  have e1 := names_sorted hrd hr hown hS
  have e2 : ss.length = l.length := by
    have := congrArg List.length e1
    rw [List.length_mergeSort, List.length_map] at this
    exact this
  rw [e1, e2] at hrow
  refine ⟨v, rfl, ?_, hB⟩
  have e3 : (l.map fun e => e.name.data.toList).map encStr = strVals (l.map Ent.name) := by
    unfold strVals
    rw [List.map_map, List.map_map]
    refine List.map_congr_left fun x _ => ?_
    simp only [Function.comp, encStr]
  rw [← e3]
  exact Joins.ownsRow_le hrow (by simp)
set_option maxHeartbeats 1000000 in
/-- the sorted numbers -/
theorem sortedI_any {c m : Nat} {P : Int → Nat} {G : Int → Option Nat} {T : List Nod} {D : DataW Unit} {w : World} (h : TreeAt c m P G T D w) (hl : T.length ≤ 100000) :
    Calls Tryz.prog 37 #[.func (.func 69) #[] #[.pointer (some ⟨w.heap.size, 0, none⟩)]] (w.alloc (.cells #[.map (some m)] 51)) fun e w' =>
      ∃ v, e = .returned v ∧ w'.ownsRow w.heap.size 3 1 v T.length (intVals (T.map Nod.num)) ∧ Below w.heap.size w w' := by
  have hown := h.map
  have hsz := h.size
  have hbl := hown.lt
  have hmax : Maps.size D ≤ maxLen := by unfold maxLen; omega
  have hbytes : Maps.size D * 8 ≤ 140737488355328 := by omega
  have hseq : SeqGives Fence.wide 2 Tryz.prog 69 #[.pointer (some ⟨w.heap.size, 0, none⟩)] encZ (fun ss => ss.Perm (intKeys D)) (Maps.size D) (w.alloc (.cells #[.map (some m)] 51)) :=
    AnyZI.keys_gives (ρ := Tryz.keysI_ren) { Tryz.keysI with } Fence.wide _ trivial rfl (by omega) w.heap.size m T.length D _ (by simp) (by simp) (by
      obtain ⟨es, clock, hb, Ft, hs, hD⟩ := hown
      exact ⟨es, clock, (Below.heap_alloc _ _ m hbl).trans hb, Ft, hs, hD⟩)
  have cS := AnyZI.sorted_in Tryz.sortedI Fence.wide 5 trivial trivial trivial trivial rfl (by omega) (sortsI _) (enters_of Tryz.func68 (by kernel_rfl) rfl) 69 #[.pointer (some ⟨w.heap.size, 0, none⟩)] trivial (enters_of Tryz.func69 (by kernel_rfl) rfl) _ _ hmax hbytes _ hseq
  refine (callsIn_wide.1 cS).mono ?_
  rintro e w' ⟨v, ss, rfl, hS, hrow, hnil, hb⟩
  have hB : Below w.heap.size w w' := ((Below.refl _ w).alloc (Nat.le_refl _) _).trans (hb.mono (by simp))
  have e1 := nums_sorted h.look h.rise hown hS
  have e2 : ss.length = T.length := by
    have := congrArg List.length e1
    rw [List.length_mergeSort, List.length_map] at this
    exact this
  rw [e1, e2] at hrow
  exact ⟨v, rfl, Joins.ownsRow_le hrow (by simp), hB⟩
end Go.Proofs.YtfokdmijkniomaaGreatDoor

namespace Go.Proofs.YtfokdmijkniomaaGreatDoor
open Go.RowKit Go
def NdeObj (r : Nde) : Obj := .cells #[.int .i64 r.num, .bool r.dir, .int .i64 r.links, .string r.data] 38
structure NdeAt (r : Nde) (b : Nat) (w : World) : Prop where
  obj : w.heap[b]? = some (NdeObj r)
theorem NdeAt.cells {r : Nde} {b : Nat} {w : World} (h : NdeAt r b w) : w.cell? ⟨b, 0, none⟩ = some (.int .i64 r.num) ∧ w.cell? ⟨b, 1, none⟩ = some (.bool r.dir) ∧ w.cell? ⟨b, 2, none⟩ = some (.int .i64 r.links) ∧ w.cell? ⟨b, 3, none⟩ = some (.string r.data) := by
  obtain ⟨h⟩ := h
  unfold NdeObj at h
  refine ⟨?_, ?_, ?_, ?_⟩ <;> simp [World.cell?, h]
theorem NdeAt.fr {r : Nde} {b : Nat} {w : World} (h : NdeAt r b w) (i : Nat) : w.frozen? ⟨b, i, none⟩ = false := by
  obtain ⟨h⟩ := h
  unfold NdeObj at h
  simp [World.frozen?, h]
theorem NdeAt.later {r : Nde} {b : Nat} {w w' : World} (h : NdeAt r b w) (hB : Below w.heap.size w w') : NdeAt r b w' := ⟨keeps_of hB h.obj⟩
theorem NdeAt.new (w : World) (r : Nde) : NdeAt r w.heap.size (w.alloc (NdeObj r)) := ⟨heap_alloc_new _ _⟩
theorem NdeAt.keep {r : Nde} {b : Nat} {F : Nat → Prop} {w w' : World} (h : NdeAt r b w) (s : Stir F w w') (hn : ¬ F b) : NdeAt r b w' := ⟨s.keep h.obj hn⟩
def zeroN : Nde := ⟨0, false, 0, ⟨#[]⟩⟩
/-- a node is stored, cell by cell -/
theorem nde_store {z : Nde} (r : Nde) {b : Nat} {w : World} (h : NdeAt z b w) : ∃ u1 u2 u3 u4,
    (w.setCell ⟨b, 0, none⟩ (.int .i64 r.num) = u1 ∧ u1.setCell ⟨b, 1, none⟩ (.bool r.dir) = u2 ∧ u2.setCell ⟨b, 2, none⟩ (.int .i64 r.links) = u3 ∧ u3.setCell ⟨b, 3, none⟩ (.string r.data) = u4) ∧
    (w.cell? ⟨b, 0, none⟩ = some (.int .i64 z.num) ∧ u1.cell? ⟨b, 1, none⟩ = some (.bool z.dir) ∧ u2.cell? ⟨b, 2, none⟩ = some (.int .i64 z.links) ∧ u3.cell? ⟨b, 3, none⟩ = some (.string z.data)) ∧
    (w.frozen? ⟨b, 0, none⟩ = false ∧ u1.frozen? ⟨b, 1, none⟩ = false ∧ u2.frozen? ⟨b, 2, none⟩ = false ∧ u3.frozen? ⟨b, 3, none⟩ = false) ∧ NdeAt r b u4 ∧ Stir (fun i => i = b) w u4 := by
  obtain ⟨h⟩ := h
  unfold NdeObj at h
  obtain ⟨u1, e1⟩ : ∃ u, w.setCell ⟨b, 0, none⟩ (.int .i64 r.num) = u := ⟨_, rfl⟩
  have h1 : u1.heap[b]? = some (.cells #[.int .i64 r.num, .bool z.dir, .int .i64 z.links, .string z.data] 38) := by rw [← e1, heap_set h]; rfl
  obtain ⟨u2, e2⟩ : ∃ u, u1.setCell ⟨b, 1, none⟩ (.bool r.dir) = u := ⟨_, rfl⟩
  have h2 : u2.heap[b]? = some (.cells #[.int .i64 r.num, .bool r.dir, .int .i64 z.links, .string z.data] 38) := by rw [← e2, heap_set h1]; rfl
  obtain ⟨u3, e3⟩ : ∃ u, u2.setCell ⟨b, 2, none⟩ (.int .i64 r.links) = u := ⟨_, rfl⟩
  have h3 : u3.heap[b]? = some (.cells #[.int .i64 r.num, .bool r.dir, .int .i64 r.links, .string z.data] 38) := by rw [← e3, heap_set h2]; rfl
  obtain ⟨u4, e4⟩ : ∃ u, u3.setCell ⟨b, 3, none⟩ (.string r.data) = u := ⟨_, rfl⟩
  have h4 : u4.heap[b]? = some (NdeObj r) := by rw [← e4, heap_set h3]; rfl
  refine ⟨u1, u2, u3, u4, ⟨e1, e2, e3, e4⟩, ⟨?_, ?_, ?_, ?_⟩, ⟨?_, ?_, ?_, ?_⟩, ⟨h4⟩, ?_⟩
  · simp [World.cell?, h]
  · simp [World.cell?, h1]
  · simp [World.cell?, h2]
  · simp [World.cell?, h3]
  · simp [World.frozen?, h]
  · simp [World.frozen?, h1]
  · simp [World.frozen?, h2]
  · simp [World.frozen?, h3]
  · rw [← e4, ← e3, ← e2, ← e1]
    exact ((((Stir.refl (fun i => i = b) w).set (.inl rfl) _).set (.inl rfl) _).set (.inl rfl) _).set (.inl rfl) _
end Go.Proofs.YtfokdmijkniomaaGreatDoor

