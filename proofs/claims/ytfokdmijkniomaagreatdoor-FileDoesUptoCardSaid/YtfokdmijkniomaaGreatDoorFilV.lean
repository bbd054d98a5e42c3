/-
  A node as others see it, taken in.
-/
import Derived.Test.YtfokdmijkniomaaGreatDoorF3
import Derived.Test.YtfokdmijkniomaaGreatDoorT3
import Derived.Carry
namespace Go.Proofs.YtfokdmijkniomaaGreatDoor
open Go.RowKit Go Go.Maps

/-- a node, of what others see -/
def NodOf (r : Nde) (x : Nod) : Prop := x.num = r.num ∧ x.dir = r.dir ∧ x.links = r.links ∧ r.data.size ≤ 16384 ∧
  ((r.dir = false ∧ x.data = r.data ∧ x.names = []) ∨ (r.dir = true ∧ x.data = ⟨#[]⟩ ∧ IsL kE r.data.data.toList x.names ∧ x.names.length ≤ 60))
theorem NodOf.uniq {r : Nde} {x y : Nod} (h : NodOf r x) (k : NodOf r y) : x = y := by
  obtain ⟨h1, h2, h3, _, h4⟩ := h
  obtain ⟨k1, k2, k3, _, k4⟩ := k
  obtain ⟨n, d, l, b, ns⟩ := x
  obtain ⟨n', d', l', b', ns'⟩ := y
  simp only at *
  subst h1; subst h2; subst h3; subst k1; subst k2; subst k3
  rcases h4 with ⟨a, rfl, rfl⟩ | ⟨a, rfl, b, _⟩
  · rcases k4 with ⟨_, rfl, rfl⟩ | ⟨e, _⟩
    · rfl
    · rw [a] at e; cases e
  · rcases k4 with ⟨e, _⟩ | ⟨_, rfl, c, _⟩
    · rw [a] at e; cases e
    · rw [b.uniq (readsE (a := 65535) (by omega)) c]
theorem NodOf.told {r : Nde} {x : Nod} (h : NodOf r x) : told x = r := by
  obtain ⟨h1, h2, h3, _, h4⟩ := h
  obtain ⟨n, d, l, b⟩ := r
  obtain ⟨n', d', l', b', ns'⟩ := x
  simp only at *
  subst h1; subst h2; subst h3
  unfold Go.Proofs.YtfokdmijkniomaaGreatDoor.told toldB
  rcases h4 with ⟨a, rfl, rfl⟩ | ⟨a, rfl, c, _⟩
  · simp [a]
  · simp only [a, if_true, Nde.mk.injEq, true_and]
    rw [c.2, bs_self]
theorem NodOf.of {T : List Nod} (h : Formed T) {x : Nod} (hx : x ∈ T) : NodOf (Go.Proofs.YtfokdmijkniomaaGreatDoor.told x) x := by
  refine ⟨rfl, rfl, rfl, ?_, ?_⟩
  · show (toldB x).size ≤ 16384
    unfold toldB
    cases hd : x.dir with
    | false => simpa using (h.file x hx hd).2
    | true =>
      simp only [if_true]
      have := laid_len (K := kE) (n := 20) (fun y hy => entEnc_len hy) (h.may hx hd)
      have h2 := (h.dir x hx hd).2.2.1
      rw [bs_size]; omega
  · cases hd : x.dir with
    | false =>
      refine .inl ⟨by simp [Go.Proofs.YtfokdmijkniomaaGreatDoor.told, hd], ?_, (h.file x hx hd).1⟩
      show x.data = toldB x
      unfold toldB; simp [hd]
    | true => exact .inr ⟨by simp [Go.Proofs.YtfokdmijkniomaaGreatDoor.told, hd], (h.dir x hx hd).1, h.isL hx hd, (h.dir x hx hd).2.2.1⟩
def ndeV (r : Nde) : Value := .agg #[.int .i64 r.num, .bool r.dir, .int .i64 r.links, .string r.data]
/-- what taken answers -/
def TakenE (r : Nde) (w : World) (e : Ending) (w' : World) : Prop :=
  (((∀ x, ¬ NodOf r x) ∧ e = .returned (.tuple #[.pointer none, .bool false])) ∨
    ∃ b p x, NodOf r x ∧ e = .returned (.tuple #[.pointer (some ⟨b, 0, none⟩), .bool true]) ∧ NodeAt w' b p x ∧ w.heap.size ≤ b ∧ (∀ g, p = some g → w.heap.size ≤ g)) ∧ Below w.heap.size w w'
theorem put_last {l : List Ent} {e : Ent} (h : ∀ x ∈ l, ltB x.name e.name = true) : insE e.name e.num l = l ++ [e] := by
  unfold insE
  induction l with
  | nil => rfl
  | cons y l ih =>
    rw [putK, if_pos (h y (by simp)), ih fun x hx => h x (List.mem_cons_of_mem _ hx)]; rfl
theorem ins_take {l : List Ent} (hr : RiseE l) {j : Nat} (hj : j < l.length) : insE l[j].name l[j].num (l.take j) = l.take (j + 1) := by
  rw [put_last, List.take_succ_eq_append_getElem hj]
  intro x hx
  obtain ⟨i, hi, rfl⟩ := List.mem_iff_getElem.1 hx
  rw [List.length_take] at hi
  rw [List.getElem_take]
  exact (List.pairwise_iff_getElem.1 hr) i j (by omega) hj (by omega)
theorem look_take {l : List Ent} (hr : RiseE l) {j : Nat} (hj : j < l.length) : lookE (l.take j) l[j].name = none := by
  rw [look_none]
  refine seek_none.2 fun x hx e => ?_
  obtain ⟨i, hi, rfl⟩ := List.mem_iff_getElem.1 hx
  rw [List.length_take] at hi
  rw [List.getElem_take] at e
  have := (List.pairwise_iff_getElem.1 hr) i j (by omega) hj (by omega)
  rw [e, ordB.irr] at this; cases this
theorem rise_take {l : List Ent} (hr : RiseE l) (j : Nat) : RiseE (l.take j) := List.Pairwise.sublist (List.take_sublist _ _) hr
set_option maxRecDepth 100000 in
set_option maxHeartbeats 8000000 in
theorem taken_any (r : Nde) (hs : r.data.size ≤ 281474976710656) (w : World) (hg : GE w) :
    Calls Tryz.prog 78 #[ndeV r] w fun e w' => TakenE r w e w' := by
  obtain ⟨num, dir, links, data⟩ := r
  simp only at hs
  obtain ⟨w1, hw1⟩ : ∃ w1, w.alloc (.cells #[.int .i64 num, .bool dir, .int .i64 links, .string data] 38) = w1 := ⟨_, rfl⟩
  have hB1 : Below w.heap.size w w1 := by rw [← hw1]; exact (Below.refl _ w).alloc (Nat.le_refl _) _
  have o1 : w1.heap[w.heap.size]? = some (.cells #[.int .i64 num, .bool dir, .int .i64 links, .string data] 38 (0, 0)) := by rw [← hw1]; exact heap_alloc_new w _
  have hs1 : w1.heap.size = w.heap.size + 1 := by rw [← hw1]; exact Array.size_push _
  have c0 : w1.cell? ⟨w.heap.size, 0, none⟩ = some (.int .i64 num) := by simp [World.cell?, o1]
  have c1 : w1.cell? ⟨w.heap.size, 1, none⟩ = some (.bool dir) := by simp [World.cell?, o1]
  have c2 : w1.cell? ⟨w.heap.size, 2, none⟩ = some (.int .i64 links) := by simp [World.cell?, o1]
  have c3 : w1.cell? ⟨w.heap.size, 3, none⟩ = some (.string data) := by simp [World.cell?, o1]
  have HB1 := Lib.hid hB1
  have HO1 := Lib.hid o1
  have HS1 := Lib.hid hs1
  have HG := Lib.hid hg
  unfold ndeV
  simp only
  by_cases hlen : 16384 < data.size
  · have hz : (16384 : Int) < (data.size : Int) := by omega
    have HBAD := Lib.hid (show ∀ x, ¬ NodOf ⟨num, dir, links, data⟩ x from fun x h => by have := h.2.2.2.1; simp only at this; omega)
    clear hB1 o1 hs1 hg hlen c0 c1 c2
    go_enter Tryz.func78, Tryz.ntmps78
    go_wp2
    go_ret2
    exact ⟨.inl ⟨HBAD.out, rfl⟩, HB1.out⟩
  have hz : ¬ (16384 : Int) < (data.size : Int) := by omega
  have HLEN := Lib.hid hlen
  obtain ⟨w2, hw2⟩ : ∃ w2, w1.alloc (NObj ⟨num, dir, links, ⟨#[]⟩, []⟩ none) = w2 := ⟨_, rfl⟩
  have hB2 : Below w1.heap.size w1 w2 := by rw [← hw2]; exact (Below.refl _ w1).alloc (Nat.le_refl _) _
  have o2 : w2.heap[w1.heap.size]? = some (NObj ⟨num, dir, links, ⟨#[]⟩, []⟩ none) := by rw [← hw2]; exact heap_alloc_new w1 _
  have hs2 : w2.heap.size = w1.heap.size + 1 := by rw [← hw2]; exact Array.size_push _
  have d1 := NObj.c1 o2
  have e3 : w2.cell? ⟨w.heap.size, 3, none⟩ = some (.string data) := (hB2.cell (p := ⟨w.heap.size, 3, none⟩) (lt_of_cell c3)).trans c3
  have HB2 := Lib.hid hB2
  have HO2 := Lib.hid o2
  have HS2 := Lib.hid hs2
  have HBW := Lib.hid (hB1.trans (hB2.mono hB1.size))
  cases dir with
  | false =>
    have CC := fun w => clone_any data hs w
    unfold NObj at hw2
    clear hB1 o1 hs1 hg hlen hB2 o2 hs2
    go_enter Tryz.func78, Tryz.ntmps78
    go_wp2_with fail
    refine (CC _).mono ?_
    rintro e w3 ⟨rfl, hB3⟩
    have o3 := keeps_of hB3 HO2.out
    have f3 := NObj.fr o3 3
    have g3 := NObj.c3 o3
    have o4 := NObj.set3 o3 data
    have HX := Lib.hid (show NodeAt (w3.setCell ⟨w1.heap.size, 3, none⟩ (.string data)) w1.heap.size none ⟨num, false, links, data, []⟩ from ⟨o4, rfl, rfl⟩)
    have HST := Lib.hid (show Below w.heap.size w (w3.setCell ⟨w1.heap.size, 3, none⟩ (.string data)) from
      (((Stir.of_below (F := fun _ => False) HBW.out).and_below hB3).set (.inr (by have := HS1.out; omega)) _).below (fun _ f => f.elim) (Nat.le_refl _))
    clear hB3 o3 o4
    go_wp2
    go_ret2
    exact ⟨.inr ⟨_, none, ⟨num, false, links, data, []⟩, ⟨rfl, rfl, rfl, Nat.le_of_not_lt HLEN.out, .inl ⟨rfl, rfl, rfl⟩⟩, rfl, HX.out, (by have := HS1.out; omega), fun g hg => (by cases hg)⟩, HST.out⟩
  | true =>
    have CP := WT.entParses_any data hs w2 (hg.err.below hB1 |>.below hB2)
    have HGW := Lib.hid (show NodOf ⟨num, true, links, data⟩ = NodOf ⟨num, true, links, data⟩ from rfl)
    unfold NObj at hw2
    clear hB1 o1 hs1 hg hlen hB2 o2 hs2
    go_enter Tryz.func78, Tryz.ntmps78
    go_wp2_with fail
    refine CP.mono ?_
    rintro e w3 ⟨hE, hB3⟩
    rcases hE with ⟨l, v, hL, rfl, hrow⟩ | ⟨hno, rfl⟩
    · by_cases h60 : 60 < l.length
      · have HBAD := Lib.hid (show ∀ x, ¬ NodOf ⟨num, true, links, data⟩ x from fun x h => by
          obtain ⟨_, _, _, _, h⟩ := h
          rcases h with ⟨h, _⟩ | ⟨_, _, h, h2⟩
          · cases h
          · have := h.uniq (readsE (a := 65535) (by omega)) hL
            rw [this] at h2; omega)
        have h60z : (60 : Int) < (l.length : Int) := by omega
        obtain ⟨a, cap, rfl⟩ : ∃ a cap, v = .slice a l.length cap := by
          rcases hrow.2 with ⟨rfl, h0⟩ | ⟨g, cap, cur, rfl, _⟩
          · exact ⟨none, 0, by rw [h0]⟩
          · exact ⟨_, cap, rfl⟩
        have HB3 := Lib.hid hB3
        clear hrow hL h60 hB3
        go_wp2
        go_ret2
        exact ⟨.inl ⟨HBAD.out, rfl⟩, HBW.out.trans (HB3.out.mono HBW.out.size)⟩
      · have h60z : ¬ (60 : Int) < (l.length : Int) := by omega
        have hlst := WT.lst_of_owns (C := entC) (fun _ => rfl) (by omega) hrow
        have hri := rise_of_may hL.1
        have hok : ∀ e ∈ l, EntOk e := fun e he => hL.1.ok he
        have hmx := hL
        obtain ⟨a, cap, rfl, hla⟩ := hlst
        have HLOW := Lib.hid (show ∀ br off, a = some ⟨br, off, none⟩ → w2.heap.size ≤ br from fun br off e => by
          subst e
          rcases hrow.2 with ⟨e, _⟩ | ⟨g, cap', cur, e, h2, _⟩
          · cases e
          · cases e; exact h2)
        have HLA := Lib.hid hla
        have HRI := Lib.hid hri
        have HOK := Lib.hid hok
        have HL := Lib.hid hL
        have HL60 := Lib.hid h60
        have hw3s : w2.heap.size ≤ w3.heap.size := hB3.size
        have o3 := keeps_of hB3 HO2.out
        obtain ⟨w4, hw4⟩ : ∃ w4, w3.alloc (.map #[] 0) = w4 := ⟨_, rfl⟩
        have hB4 : Below w3.heap.size w3 w4 := by rw [← hw4]; exact (Below.refl _ w3).alloc (Nat.le_refl _) _
        have m4 : w4.ownsMap Tryz.prog 9 intElem w3.heap.size 0 (.map []) := by rw [← hw4]; exact World.ownsMap_made w3 _ _ _
        have o4 := keeps_of hB4 o3
        have f4 := NObj.fr o4 4
        have g4 := NObj.c4 o4
        obtain ⟨w5, hw5⟩ : ∃ w5, w4.setCell ⟨w1.heap.size, 4, none⟩ (.map (some w3.heap.size)) = w5 := ⟨_, rfl⟩
        have o5 : w5.heap[w1.heap.size]? = some (NObj ⟨num, true, links, ⟨#[]⟩, []⟩ (some w3.heap.size)) := by rw [← hw5, heap_set o4]; rfl
        have n5 : NamesAt w5 true [] (some w3.heap.size) := ⟨rfl, _, by rw [← hw5]; exact m4.setCell (by have := HS2.out; show w3.heap.size ≠ w1.heap.size; omega) _, rfl, reads_none⟩
        have S5 : Stir (fun i => i = w1.heap.size) w3 w5 := by rw [← hw5]; exact ((Stir.of_below (F := fun i => i = w1.heap.size) hB4).set (.inl rfl) _)
        have hm5 := @run_makeMap Tryz.prog
        have HB3 := Lib.hid hB3
        have HO5 := Lib.hid o5
        have HN5 := Lib.hid n5
        have HS5 := Lib.hid S5
        have HW3 := Lib.hid hw3s
        have HE0 := Lib.hid (show Below w.heap.size w w5 from ((Stir.of_below (F := fun _ => False) HBW.out).and_below hB3).trans (G := fun i => i = w1.heap.size) S5 (fun i hi => .inr (by have := HS1.out; omega)) |>.below (fun _ f => f.elim) (Nat.le_refl _))
        clear hrow hL h60 hB3 hla hri hok hmx hw3s o3 hB4 m4 o4 o5 n5 S5
        go_wp2
        clear f4 g4 hm5 c0 c1 c2 c3 e3 d1
        go_loopw [52] (fun i wr => ∃ j : Nat, j ≤ l.length ∧ i = .int .i64 j ∧ Hid (NamesAt wr true (l.take j) (some w3.heap.size)) ∧ Hid (wr.heap[w1.heap.size]? = some (NObj ⟨num, true, links, ⟨#[]⟩, []⟩ (some w3.heap.size))) ∧
          Hid (Stir (fun i => i = w1.heap.size ∨ i = w3.heap.size) w3 wr)) (fun i _ => l.length - (intOf i).toNat)
        case atStart => exact ⟨0, Nat.zero_le _, rfl, Lib.hid HN5.out, HO5, Lib.hid (HS5.out.weaken (fun _ h => .inl h))⟩
        case round =>
          obtain ⟨j, hj, rfl, HNM, HOB, HST⟩ := hrel
          by_cases hlt : j < l.length
          · have hji : (j : Int) < (l.length : Int) := by omega
            obtain ⟨br, off, rfl, hbr, hca⟩ := HLA.out (by rintro rfl; simp at hlt)
            have hkeep : wr.heap[br]? = w3.heap[br]? := HST.out.block br hbr (by have := HLOW.out br off rfl; have := HS2.out; omega)
            have q0 : wr.cell? ⟨br, off + j * 2, none⟩ = some (.string l[j].name) := by
              rw [World.cell?_of_block (w := w3) hkeep]; exact hca j hlt 0 (by omega)
            have q1 : wr.cell? ⟨br, off + j * 2 + 1, none⟩ = some (.int .i64 l[j].num) := by
              rw [World.cell?_of_block (w := w3) hkeep]; exact hca j hlt 1 (by omega)
            have hlk := look_take HRI.out hlt
            have hit := ins_take HRI.out hlt
            obtain ⟨hno, hnl, hnu⟩ := HOK.out l[j] (List.getElem_mem _)
            have hnsz : l[j].name.size ≤ maxLen := by have := hno.2.1; unfold maxLen; omega
            have hnok : IntOk l[j].num := ⟨by omega, by omega⟩
            clear hca hkeep hno hnl hnu
            generalize l[j] = en at *
            obtain ⟨nm, kk⟩ := en
            replace hnsz : nm.size ≤ maxLen := hnsz
            replace hnok : IntOk kk := hnok
            replace q0 : wr.cell? ⟨br, off + j * 2, none⟩ = some (.string nm) := q0
            replace q1 : wr.cell? ⟨br, off + j * 2 + 1, none⟩ = some (.int .i64 kk) := q1
            replace hit : insE nm kk (l.take j) = l.take (j + 1) := hit
            obtain ⟨w6, hw6⟩ : ∃ w6, wr.alloc (.cells #[.string nm, .int .i64 kk] 88) = w6 := ⟨_, rfl⟩
            have hB6 : Below wr.heap.size wr w6 := by rw [← hw6]; exact (Below.refl _ wr).alloc (Nat.le_refl _) _
            have o6 : w6.heap[wr.heap.size]? = some (.cells #[.string nm, .int .i64 kk] 88 (0, 0)) := by rw [← hw6]; exact heap_alloc_new wr _
            have y0 : w6.cell? ⟨wr.heap.size, 0, none⟩ = some (.string nm) := by simp [World.cell?, o6]
            have y1 : w6.cell? ⟨wr.heap.size, 1, none⟩ = some (.int .i64 kk) := by simp [World.cell?, o6]
            have ob6 := keeps_of hB6 HOB.out
            have b4 := NObj.c4 ob6
            have n6 : NamesAt w6 true (l.take j) (some w3.heap.size) := HNM.out.stay (Stir.of_below (F := fun _ => False) hB6) (fun _ _ f => f)
            obtain ⟨w7, hup, n7, ht7⟩ := NamesAt.put (w := w6.drew) n6 (rise_take HRI.out j) (by have := HL60.out; rw [List.length_take]; omega) hnsz (k := kk) hnok
            rw [hit] at n7
            have S7 : Stir (· = w3.heap.size) wr w7 := (Stir.of_below (F := (· = w3.heap.size)) hB6).drew.turned (.inl rfl) ht7
            have HN7 := Lib.hid n7
            have HO7 := Lib.hid (S7.keep HOB.out (by have := HS2.out; have := HW3.out; omega))
            have HS7 := Lib.hid (HST.out.trans S7 (fun i hi => .inl (.inr hi)))
            clear hlk hit hnsz hnok hB6 o6 ob6 n6 n7 ht7 S7
            go_wp2
            go_region
            all_goals (
              go_wp2
              go_roundw
              case rel => exact ⟨j + 1, by omega, rfl, HN7, HO7, HS7⟩
              case measure => simp [intOf]; omega)
          · have hji : ¬ (j : Int) < (l.length : Int) := by omega
            have hjl : l.take j = l := List.take_of_length_le (by omega)
            rw [hjl] at HNM
            have HFIN := Lib.hid (show Below w.heap.size w wr from (((Stir.of_below (F := fun _ => False) HBW.out).and_below HB3.out).trans HST.out (fun i hi => .inr (by have := HS1.out; have := HS2.out; have := HW3.out; rcases hi with hi | hi <;> omega))).below (fun _ f => f.elim) (Nat.le_refl _))
            go_wp2
            go_ret2
            exact ⟨.inr ⟨_, _, ⟨num, true, links, ⟨#[]⟩, l⟩, ⟨rfl, rfl, rfl, Nat.le_of_not_lt HLEN.out, .inr ⟨rfl, rfl, HL.out, Nat.le_of_not_lt HL60.out⟩⟩, rfl, ⟨HOB.out, HNM.out⟩, (by have := HS1.out; omega), fun g hg => (by cases hg; have := HS1.out; have := HS2.out; have := HW3.out; omega)⟩, HFIN.out⟩
    · have HBAD := Lib.hid (show ∀ x, ¬ NodOf ⟨num, true, links, data⟩ x from fun x h => by
        obtain ⟨_, _, _, _, h⟩ := h
        rcases h with ⟨h, _⟩ | ⟨_, _, h, _⟩
        · cases h
        · exact hno _ h)
      have HB3 := Lib.hid hB3
      clear hB3 hno
      go_wp2
      go_ret2
      exact ⟨.inl ⟨HBAD.out, rfl⟩, HBW.out.trans (HB3.out.mono HBW.out.size)⟩
end Go.Proofs.YtfokdmijkniomaaGreatDoor

