/-
  FilSc / CmdRp / FilT / FilSd / FilSe.
-/
import Derived.Test.YtfokdmijkniomaaGreatDoorFilSb
import Derived.Laws.ResultCell
import Derived.Test.YtfokdmijkniomaaGreatDoorC4
import Derived.Test.YtfokdmijkniomaaGreatDoorF3
namespace Go.Proofs.YtfokdmijkniomaaGreatDoor
open Go.RowKit Go Go.Maps

/-- a walk's end -/
def endE (T : List Nod) : Except Int Int → Except Int Nod
  | .error e => .error e
  | .ok k => match nodeAt T k with
    | none => .error 141
    | some x => .ok x
theorem findE_end (T : List Nod) (l : List ByteArray) : findE T l = endE T (walkE T 1 l) := rfl
/-- what find tells -/
def findA : Except Int Nod → Nde × Int
  | .error e => (zeroN, e)
  | .ok x => (told x, 0)
def findK (T : List Nod) (s : ByteArray) (l : List Ent) (k : Int) : Int := l.foldl (fun k e => if e.name = s then idxF e.num (tolds T) 0 else k) k
theorem findK_none {T : List Nod} {s : ByteArray} : ∀ {l : List Ent} {k : Int}, (∀ e ∈ l, e.name ≠ s) → findK T s l k = k
  | [], _, _ => rfl
  | y :: l, k, h => by
    have ih := findK_none (T := T) (s := s) (l := l) (k := k) fun e he => h e (List.mem_cons_of_mem _ he)
    unfold findK at ih ⊢
    rw [List.foldl_cons, if_neg (h y (by simp)), ih]
theorem findK_is {T : List Nod} {s : ByteArray} : ∀ {l : List Ent} {k : Int}, RiseE l → findK T s l k = match lookE l s with
    | none => k
    | some n => idxF n (tolds T) 0
  | [], _, _ => rfl
  | y :: l, k, hr => by
    obtain ⟨h1, h2⟩ := List.pairwise_cons.1 hr
    have ih := fun k => findK_is (T := T) (s := s) (l := l) (k := k) h2
    by_cases he : y.name = s
    · have hn : ∀ e ∈ l, e.name ≠ s := fun e hm e2 => by
        have := h1 e hm
        rw [he, e2, ordB.irr] at this; cases this
      have e1 := findK_none (T := T) (k := idxF y.num (tolds T) 0) hn
      have hlk : lookE (y :: l) s = some y.num := by unfold lookE; rw [seekK, if_pos he]; rfl
      rw [hlk]
      unfold findK at e1 ⊢
      rw [List.foldl_cons, if_pos he]
      exact e1
    · have := ih k
      have hlk : lookE (y :: l) s = lookE l s := by unfold lookE; rw [seekK, if_neg he]
      rw [hlk]
      unfold findK at this ⊢
      rw [List.foldl_cons, if_neg he]
      exact this
theorem findK_snoc {T : List Nod} {s : ByteArray} {l : List Ent} {e : Ent} {k : Int} : findK T s (l ++ [e]) k = if e.name = s then idxF e.num (tolds T) 0 else findK T s l k := by
  unfold findK
  rw [List.foldl_append]; rfl
theorem findK_take {T : List Nod} {s : ByteArray} {l : List Ent} {t : Nat} (ht : t < l.length) : findK T s (l.take (t + 1)) (-1) = if l[t].name = s then idxF l[t].num (tolds T) 0 else findK T s (l.take t) (-1) := by
  rw [List.take_succ_eq_append_getElem ht, findK_snoc]
/-- a step that finds no name, or a node that is no directory -/
theorem walk_no {T : List Nod} {y : Nod} {s : ByteArray} {l : List ByteArray} (hy : nodeAt T y.num = some y) (hd : y.dir = false) : endE T (walkE T y.num (s :: l)) = .error 143 := by
  rw [walkE]
  unfold stepE
  rw [hy]
  simp only [hd]
  rfl
theorem walk_none {T : List Nod} {y : Nod} {s : ByteArray} {l : List ByteArray} (hy : nodeAt T y.num = some y) (hd : y.dir = true) (hk : lookE y.names s = none) : endE T (walkE T y.num (s :: l)) = .error 141 := by
  rw [walkE]
  unfold stepE
  rw [hy]
  simp only [hd, hk]
  rfl
theorem walk_go {T : List Nod} {y : Nod} {s : ByteArray} {l : List ByteArray} {n : Int} (hy : nodeAt T y.num = some y) (hd : y.dir = true) (hk : lookE y.names s = some n) : walkE T y.num (s :: l) = walkE T n l := by
  rw [walkE]
  unfold stepE
  rw [hy]
  simp only [hd, hk]
  rfl
theorem lt_nde {T : List Nod} {lv : Value} {w : World} (hl : LstAt ndeC 4 w lv (tolds T)) (hne : T ≠ []) : ∃ b off cap, lv = .slice (some ⟨b, off, none⟩) T.length cap ∧ b < w.heap.size ∧ ∀ (W : World), Below w.heap.size w W → ∀ i x, T[i]? = some x → W.cell? ⟨b, off + i * 4, none⟩ = some (.int .i64 x.num) ∧ W.cell? ⟨b, off + i * 4 + 1, none⟩ = some (.bool x.dir) ∧ W.cell? ⟨b, off + i * 4 + 2, none⟩ = some (.int .i64 x.links) ∧ W.cell? ⟨b, off + i * 4 + 3, none⟩ = some (.string (toldB x)) := by
  obtain ⟨a, cap, rfl, hc⟩ := hl
  obtain ⟨b, off, rfl, hb, hc⟩ := hc (fun e => hne (List.map_eq_nil_iff.1 e))
  refine ⟨b, off, cap, by rw [tolds_len], hb, fun W hB i x hx => ?_⟩
  obtain ⟨hi, rfl⟩ := List.getElem?_eq_some_iff.1 hx
  have hi' : i < (tolds T).length := by rw [tolds_len]; exact hi
  have h := lst_node (W := W) (A := tolds T) (fun j hj i hi => by rw [World.cell?_of_block (hB.block b hb)]; exact hc j hj i hi) hi'
  rw [tolds_get] at h
  exact h
theorem formed_head {T : List Nod} (F : Formed T) : ∃ r U, T = r :: U ∧ r.num = 1 ∧ r.dir = true ∧ r.links = 1 := by
  obtain ⟨r, hr, hd, hl⟩ := F.root
  obtain ⟨hm, hn⟩ := at_mem hr
  cases T with
  | nil => cases hm
  | cons y U =>
    rcases List.mem_cons.1 hm with rfl | hm
    · exact ⟨r, U, rfl, hn, hd, hl⟩
    · have h1 := (List.pairwise_cons.1 F.rise).1 r hm
      have h2 := (F.num y (by simp)).1
      simp only [ltI, decide_eq_true_eq] at h1
      omega
theorem idx_at {T : List Nod} {n : Int} {y : Nod} (h : nodeAt T n = some y) : ∃ i : Nat, T[i]? = some y ∧ i < T.length ∧ idxF n (tolds T) 0 = i := by
  rcases node_idx T n with ⟨h1, _⟩ | ⟨i, hi, h1, h2⟩
  · rw [h] at h1; cases h1
  · rw [h] at h1
    have e : T[i]? = some y := by rw [List.getElem?_eq_getElem hi]; exact h1.symm
    exact ⟨i, e, hi, h2⟩
theorem TextsAt.get {w : World} {v : Value} {l : List ByteArray} (h : TextsAt w v l) : ∃ a cap, v = .slice a l.length cap ∧ ∀ j (hj : j < l.length), ∃ bb oo, a = some ⟨bb, oo, none⟩ ∧ ∀ W, Below w.heap.size w W → W.cell? ⟨bb, oo + j, none⟩ = some (.string l[j]) := by
  obtain ⟨a, cap, rfl, hc⟩ := h
  refine ⟨a, cap, rfl, fun j hj => ?_⟩
  obtain ⟨bb, oo, rfl, hc2⟩ := hc (by rintro rfl; simp at hj)
  refine ⟨bb, oo, rfl, fun W hB => ?_⟩
  exact (hB.cell (p := ⟨bb, oo + j, none⟩) (lt_of_cell (hc2 j hj))).trans (hc2 j hj)
section
variable {tb : Nat} {lv : Value} {T : List Nod} {w w' : World}
set_option maxRecDepth 100000 in
set_option maxHeartbeats 16000000 in
theorem rfind_any (h : RTIs tb lv T w) (hF : Formed T) {v : Value} {l : List ByteArray} (hv : TextsAt w v l) (hl : l.length ≤ 1000) :
    Calls Tryz.prog 42 #[.pointer (some ⟨tb, 0, none⟩), v] w fun e w' => e = .returned (.tuple #[ndeV (findA (findE T l)).1, .int .i64 (findA (findE T l)).2]) ∧ Below w.heap.size w w' := by
  obtain ⟨r, U, hTU, e1, e2, e3⟩ := formed_head hF
  have hne : T ≠ [] := by rw [hTU]; simp
  have h0 : T[0]? = some r := by rw [hTU]; rfl
  have hat1 : nodeAt T r.num = some r := hF.rise.at (by rw [hTU]; simp)
  obtain ⟨FA, hFA⟩ : ∃ A, findA (findE T l) = A := ⟨_, rfl⟩
  rw [hFA]
  rw [findE_end] at hFA
  have hfa0 : findA (endE T (walkE T r.num (l.drop 0))) = FA := by rw [List.drop_zero, e1]; exact hFA
  obtain ⟨b, off, cap, rfl, hb, hcell⟩ := lt_nde h.list hne
  have HX := Lib.hid (fun (W : World) (hB : Below w.heap.size w W) => show W.cell? ⟨tb, 0, none⟩ = some (.slice (some ⟨b, off, none⟩) T.length cap) from RTObj.c0 (keeps_of hB h.obj))
  have HC := Lib.hid hcell
  have HT := Lib.hid h
  have HF := Lib.hid hF
  have HFA0 := Lib.hid hfa0
  have HAT1 := Lib.hid hat1
  obtain ⟨a, capa, rfl, ha⟩ := hv.get
  have HA := Lib.hid ha
  have h0T : (0 : Int) < (T.length : Int) := by rw [hTU]; simp
  have h0Tn : 0 < T.length := by omega
  have hT60 : T.length ≤ 60 := hF.len
  obtain ⟨w1, hw1⟩ : ∃ w1, w.alloc (NdeObj zeroN) = w1 := ⟨_, rfl⟩
  have hB1 : Below w.heap.size w w1 := by rw [← hw1]; exact (Below.refl _ w).alloc (Nat.le_refl _) _
  have z1 : NdeAt zeroN w.heap.size w1 := by rw [← hw1]; exact .new _ _
  have hs1 : w1.heap.size = w.heap.size + 1 := by rw [← hw1]; exact Array.size_push _
  obtain ⟨w2, hw2⟩ : ∃ w2, w1.alloc (NdeObj zeroN) = w2 := ⟨_, rfl⟩
  have hB2 : Below w1.heap.size w1 w2 := by rw [← hw2]; exact (Below.refl _ w1).alloc (Nat.le_refl _) _
  have z2 : NdeAt zeroN w1.heap.size w2 := by rw [← hw2]; exact .new _ _
  obtain ⟨R0, hR0⟩ : ∃ R, told r = R := ⟨_, rfl⟩
  obtain ⟨k0, k1, k2, k3⟩ := hcell w1 hB1 0 r h0
  rw [Nat.zero_mul, Nat.add_zero] at k0 k1 k2 k3
  have q0 : w1.cell? ⟨b, off, none⟩ = some (.int .i64 R0.num) := by rw [← hR0]; exact k0
  have q1 : w1.cell? ⟨b, off + 1, none⟩ = some (.bool R0.dir) := by rw [← hR0]; exact k1
  have q2 : w1.cell? ⟨b, off + 2, none⟩ = some (.int .i64 R0.links) := by rw [← hR0]; exact k2
  have q3 : w1.cell? ⟨b, off + 3, none⟩ = some (.string R0.data) := by rw [← hR0]; exact k3
  have c0 := HX.out w1 hB1
  obtain ⟨u1, u2, u3, u4, ⟨g1, g2, g3, g4⟩, ⟨s1, s2, s3, s4⟩, ⟨f1, f2, f3, f4⟩, ha4, hs4⟩ := nde_store R0 z2
  have HZ1 := Lib.hid (show NdeAt zeroN w.heap.size u4 from (z1.later hB2).keep hs4 (by omega))
  have HX1 := Lib.hid (show NdeAt (told r) w1.heap.size u4 from by rw [hR0]; exact ha4)
  have HB4 := Lib.hid (show Below w.heap.size w u4 from ((Stir.of_below (F := fun i => i = w1.heap.size) (hB1.trans (hB2.mono hB1.size))).trans hs4 (fun i hi => .inl hi)).below (B := w.heap.size) (fun i hi => by omega) (Nat.le_refl _))
  have HS1 := Lib.hid (show w.heap.size ≠ w1.heap.size ∧ w.heap.size < w1.heap.size from ⟨by omega, by omega⟩)
  have HL := Lib.hid hl
  unfold zeroN at s1 s2 s3 s4
  simp only at s1 s2 s3 s4
  unfold NdeObj zeroN at hw1 hw2
  simp only at hw1 hw2
  clear k0 k1 k2 k3 h hF hv ha hne h0 hat1 hFA hfa0 hcell hB1 z1 hs1 hB2 z2 hTU e1 e2 e3 hb ha4 hs4 hR0 hl
  unfold ndeV
  go_enter Tryz.func42, Tryz.ntmps42
  go_wp2
  clear c0 q0 q1 q2 q3 s1 s2 s3 s4 f1 f2 f3 f4
  go_loopw [7] (fun i wr => ∃ (j : Nat) (y : Nod), j ≤ l.length ∧ i = .int .i64 j ∧ Hid (nodeAt T y.num = some y ∧ findA (endE T (walkE T y.num (l.drop j))) = FA) ∧ Hid (NdeAt (told y) w1.heap.size wr ∧ NdeAt zeroN w.heap.size wr) ∧ Hid (Below w.heap.size w wr)) (fun i _ => l.length - (intOf i).toNat)
  case atStart => exact ⟨0, r, Nat.zero_le _, rfl, Lib.hid ⟨HAT1.out, HFA0.out⟩, Lib.hid ⟨HX1.out, HZ1.out⟩, HB4⟩
  case round =>
    obtain ⟨j, y, hj, rfl, HY, HZ, HB⟩ := hrel
    obtain ⟨Y, hY⟩ : ∃ Y, told y = Y := ⟨_, rfl⟩
    have hz := HZ.out.1
    rw [hY] at hz
    obtain ⟨x0, x1, x2, x3⟩ := hz.cells
    have HYY := Lib.hid hY
    by_cases hlt : j < l.length
    · have hji : (j : Int) < (l.length : Int) := by omega
      obtain ⟨bb, oo, rfl, hcs⟩ := HA.out j hlt
      obtain ⟨s, hs⟩ : ∃ s, l[j] = s := ⟨_, rfl⟩
      rw [hs] at hcs
      have HCS := Lib.hid hcs
      have HST := Lib.hid (show findA (endE T (walkE T y.num (s :: l.drop (j + 1)))) = FA from by
        have := HY.out.2
        rw [List.drop_eq_getElem_cons hlt, hs] at this
        exact this)
      have HLT := Lib.hid hlt
      have HW2 := Lib.hid (show RowKit.wrap64 ((j : Int) + 1) = (j : Int) + 1 from w64_cnt (by omega) (by have := HL.out; omega))
      have hYd : Y.dir = y.dir := by rw [← hY]; rfl
      clear hcs hs hY hz
      cases hd : y.dir with
      | false =>
        have hFA : FA = (zeroN, 143) := by rw [← HST.out, walk_no HY.out.1 hd]; rfl
        rw [hYd, hd] at x1
        obtain ⟨v1, v2, v3, v4, ⟨g1, g2, g3, g4⟩, ⟨s1, s2, s3, s4⟩, ⟨f1, f2, f3, f4⟩, ha4, hs4⟩ := nde_store zeroN HZ.out.2
        have HB6 := Lib.hid (((Stir.of_below (F := fun i => i = w.heap.size) HB.out).trans hs4 (fun i hi => .inl hi)).below (B := w.heap.size) (fun i hi => by omega) (Nat.le_refl _))
        obtain ⟨t0, t1, t2, t3⟩ := ha4.cells
        have HFE := Lib.hid hFA
        unfold zeroN at s1 s2 s3 s4 g1 g2 g3 g4 t0 t1 t2 t3
        simp only at s1 s2 s3 s4 g1 g2 g3 g4 t0 t1 t2 t3
        clear ha4 hs4 hYd hd x0 x2 x3 hFA
        go_wp2
        refine bodyPost_ret ?_ rfl ⟨rfl, HB6.out⟩
        rw [results_cell_tmp rfl]
        go_simp
        rw [HFE.out]
        exact ⟨⟨rfl, rfl, rfl, rfl⟩, rfl⟩
      | true =>
        rw [hYd, hd] at x1
        have hm := (at_mem HY.out.1).1
        have hnd := NodOf.of HF.out hm
        have hisl := HF.out.isL hm hd
        have hdr := HF.out.dir y hm hd
        have CE := rentries_any (x := Y) (l := y.names) (by rw [← HYY.out]; exact hisl) (by rw [← HYY.out]; have := hnd.2.2.2.1; omega) wr
        have HDR := Lib.hid hdr
        have HD := Lib.hid hd
        have hYe : Y = ⟨Y.num, true, Y.links, Y.data⟩ := by rw [← hd, ← hYd]
        rw [hYe] at CE
        unfold ndeV at CE
        have hm60 : y.names.length ≤ 60 := hdr.2.2.1
        clear hm hnd hisl hdr hYd hd hYe
        go_wp2_with fail
        refine CE.mono ?_
        rintro e w5 ⟨v5, rfl, hrow, hB5⟩
        have hls := WT.lst_of_owns (C := entC) (fun _ => rfl) (by decide) hrow
        obtain ⟨a5, cap5, rfl, hla⟩ := hls
        have HLA := Lib.hid (fun t (ht : t < y.names.length) => show ∃ b5 o5, a5 = some ⟨b5, o5, none⟩ ∧ ∀ W, Below w5.heap.size w5 W → W.cell? ⟨b5, o5 + t * 2, none⟩ = some (.string (y.names[t]'(by omega)).name) ∧ W.cell? ⟨b5, o5 + t * 2 + 1, none⟩ = some (.int .i64 (y.names[t]'(by omega)).num) from by
          obtain ⟨b5, o5, rfl, hb5, hc5⟩ := hla (by intro e; rw [e] at ht; simp at ht)
          refine ⟨b5, o5, rfl, fun W hB => ⟨?_, ?_⟩⟩
          · rw [World.cell?_of_block (hB.block b5 hb5)]; exact hc5 t (by omega) 0 (by omega)
          · rw [World.cell?_of_block (hB.block b5 hb5)]; exact hc5 t (by omega) 1 (by omega))
        have HB5 := Lib.hid (HB.out.trans (hB5.mono HB.out.size))
        have HZ5 := Lib.hid (show NdeAt (told y) w1.heap.size w5 ∧ NdeAt zeroN w.heap.size w5 from ⟨HZ.out.1.later hB5, HZ.out.2.later hB5⟩)
        clear CE hrow hB5 hla x0 x1 x2 x3
        obtain ⟨wo, hwo⟩ : ∃ x, x = wr := ⟨_, rfl⟩
        subst hwo
        go_wp2
        go_loopw [9, 10] (fun k i wx => ∃ t : Nat, t ≤ y.names.length ∧ k = .int .i64 (findK T s (y.names.take t) (-1)) ∧ i = .int .i64 t ∧ Hid (Below w5.heap.size w5 wx)) (fun _ i _ => y.names.length - (intOf i).toNat)
        case atStart => exact ⟨0, Nat.zero_le _, rfl, rfl, Lib.hid (Below.refl _ _)⟩
        case round =>
          obtain ⟨t, ht, rfl, rfl, HBx⟩ := hrel
          have HBX := Lib.hid (HB5.out.trans (HBx.out.mono HB5.out.size))
          by_cases htm : t < y.names.length
          · have hti : (t : Int) < (y.names.length : Int) := by omega
            obtain ⟨b5, o5, rfl, hc5⟩ := HLA.out t htm
            obtain ⟨p0, p1⟩ := hc5 wr HBx.out
            have htn : t < y.names.length := htm
            have HTK := Lib.hid (findK_take (T := T) (s := s) htn)
            obtain ⟨en, hen⟩ : ∃ e, y.names[t] = e := ⟨_, rfl⟩
            rw [hen] at p0 p1 HTK
            have p2 := HCS.out wr HBX.out
            have CN := rnode_any (w := wr.drew) (HT.out.later (HBX.out.trans ((Below.refl _ wr).drew.mono HBX.out.size))).obj (HT.out.later (HBX.out.trans ((Below.refl _ wr).drew.mono HBX.out.size))).list (by rw [tolds_len]; omega) en.num
            obtain ⟨z, hz⟩ : ∃ z, idxF en.num (tolds T) 0 = z := ⟨_, rfl⟩
            rw [hz] at CN HTK
            obtain ⟨K0, hK0⟩ : ∃ k, findK T s (y.names.take t) (-1) = k := ⟨_, rfl⟩
            rw [hK0] at HTK ⊢
            have HTM := Lib.hid htm
            have hw2 : RowKit.wrap64 ((t : Int) + 1) = (t : Int) + 1 := w64_cnt (by omega) (by omega)
            have HWT := Lib.hid hw2
            clear hc5 htn hen hz hK0 hw2
            by_cases he : en.name = s
            ·
              have HTK2 := Lib.hid (show findK T s (y.names.take (t + 1)) (-1) = z from by rw [HTK.out, if_pos he])
              have hE : (en.name.toList == s.toList) = true := by rw [he]; simp
              have p1d : wr.drew.cell? ⟨b5, o5 + t * 2 + 1, none⟩ = some (.int .i64 en.num) := p1
              clear he HTK p1
              go_wp2
              go_region_held3 (fun w' => w'.cell? ⟨b5, o5 + t * 2, none⟩ = some (.string en.name) ∧ w'.cell? ⟨bb, oo + j, none⟩ = some (.string s)) (first | exact ⟨p0, p2⟩) (fail)
              go_wp2_with fail
              refine CN.mono ?_
              rintro e w7 ⟨rfl, hB7⟩
              have HB7 := Lib.hid (HBx.out.trans (((Below.refl _ wr).drew.trans hB7).mono HBx.out.size))
              have hw2 := HWT.out
              clear CN hB7 p0 p1d p2
              go_wp2
              go_roundw
              case rel => exact ⟨t + 1, HTM.out, by rw [HTK2.out], (by first | exact num_up hw2 | rfl), HB7⟩
              case measure => first | exact meas_v HTM.out hw2 rfl rfl | exact meas_u HTM.out rfl rfl
            ·
              have HTK2 := Lib.hid (show findK T s (y.names.take (t + 1)) (-1) = K0 from by rw [HTK.out, if_neg he])
              obtain ⟨hE, -⟩ := texts_ne he
              clear he HTK p1 CN
              go_wp2
              go_region_held3 (fun w' => w'.cell? ⟨b5, o5 + t * 2, none⟩ = some (.string en.name) ∧ w'.cell? ⟨bb, oo + j, none⟩ = some (.string s)) (first | exact ⟨p0, p2⟩) (fail)
              have hw2 := HWT.out
              clear p0 p2
              go_wp2
              go_roundw
              case rel => exact ⟨t + 1, HTM.out, by rw [HTK2.out], (by first | exact num_up hw2 | rfl), Lib.hid (below_drewN HBx.out _)⟩
              case measure => first | exact meas_v HTM.out hw2 rfl rfl | exact meas_u HTM.out rfl rfl
          · have hti : ¬ (t : Int) < (y.names.length : Int) := by omega
            have htk : y.names.take t = y.names := List.take_of_length_le (by omega)
            rw [htk, findK_is HDR.out.2.1]
            have HZX := Lib.hid (show NdeAt (told y) w1.heap.size wr ∧ NdeAt zeroN w.heap.size wr from ⟨HZ5.out.1.later HBx.out, HZ5.out.2.later HBx.out⟩)
            clear htk
            cases hk : lookE y.names s with
            | none =>
              have hFA : FA = (zeroN, 141) := by rw [← HST.out, walk_none HY.out.1 HD.out hk]; rfl
              obtain ⟨v1, v2, v3, v4, ⟨g1, g2, g3, g4⟩, ⟨s1, s2, s3, s4⟩, ⟨f1, f2, f3, f4⟩, ha4, hs4⟩ := nde_store zeroN HZX.out.2
              have HB6 := Lib.hid (((Stir.of_below (F := fun i => i = w.heap.size) HBX.out).trans hs4 (fun i hi => .inl hi)).below (B := w.heap.size) (fun i hi => by omega) (Nat.le_refl _))
              obtain ⟨t0, t1, t2, t3⟩ := ha4.cells
              have HFE := Lib.hid hFA
              unfold zeroN at s1 s2 s3 s4 g1 g2 g3 g4 t0 t1 t2 t3
              simp only at s1 s2 s3 s4 g1 g2 g3 g4 t0 t1 t2 t3
              clear ha4 hs4 hFA hk
              go_wp2
              refine bodyPost_ret ?_ rfl ⟨rfl, HB6.out⟩
              rw [results_cell_tmp rfl]
              go_simp
              rw [HFE.out]
              exact ⟨⟨rfl, rfl, rfl, rfl⟩, rfl⟩
            | some n =>
              obtain ⟨y2, hy2⟩ := (HF.out.kids y (at_mem HY.out.1).1 _ (look_mem hk)).2
              simp only at hy2
              have HW := Lib.hid (show findA (endE T (walkE T n (l.drop (j + 1)))) = FA from by rw [← HST.out, walk_go HY.out.1 HD.out hk])
              have hn2 := (at_mem hy2).2
              obtain ⟨i, hi2, hi, hix⟩ := idx_at hy2
              simp only [hix]
              obtain ⟨k0, k1, k2, k3⟩ := HC.out wr HBX.out i y2 hi2
              have c0 := HX.out wr HBX.out
              have hii : (i : Int) < (T.length : Int) := by omega
              have hi0 : ¬ (i : Int) < 0 := by omega
              obtain ⟨Y2, hY2⟩ : ∃ Y, told y2 = Y := ⟨_, rfl⟩
              have q0 : wr.cell? ⟨b, off + i * 4, none⟩ = some (.int .i64 Y2.num) := by rw [← hY2]; exact k0
              have q1 : wr.cell? ⟨b, off + i * 4 + 1, none⟩ = some (.bool Y2.dir) := by rw [← hY2]; exact k1
              have q2 : wr.cell? ⟨b, off + i * 4 + 2, none⟩ = some (.int .i64 Y2.links) := by rw [← hY2]; exact k2
              have q3 : wr.cell? ⟨b, off + i * 4 + 3, none⟩ = some (.string Y2.data) := by rw [← hY2]; exact k3
              obtain ⟨v1, v2, v3, v4, ⟨g1, g2, g3, g4⟩, ⟨s1, s2, s3, s4⟩, ⟨f1, f2, f3, f4⟩, ha4, hs4⟩ := nde_store Y2 HZX.out.1
              have HB6 := Lib.hid (((Stir.of_below (F := fun i => i = w1.heap.size) HBX.out).trans hs4 (fun i hi => .inl hi)).below (B := w.heap.size) (fun i hi => by have := HS1.out.2; omega) (Nat.le_refl _))
              have HZ6 := Lib.hid (show NdeAt (told y2) w1.heap.size v4 ∧ NdeAt zeroN w.heap.size v4 from ⟨by rw [hY2]; exact ha4, HZX.out.2.keep hs4 HS1.out.1⟩)
              have HAT := Lib.hid (show nodeAt T y2.num = some y2 ∧ findA (endE T (walkE T y2.num (l.drop (j + 1)))) = FA from ⟨by rw [hn2]; exact hy2, by rw [hn2]; exact HW.out⟩)
              have hw2 := HW2.out
              clear k0 k1 k2 k3 ha4 hs4 hk hy2 hn2 hi2 hix hY2
              go_wp2
              go_roundw
              case rel => exact ⟨j + 1, y2, HLT.out, (by first | exact num_up hw2 | rfl), HAT, HZ6, HB6⟩
              case measure => first | exact meas_v HLT.out hw2 rfl rfl | exact meas_u HLT.out rfl rfl
    ·
      have hji : ¬ (j : Int) < (l.length : Int) := by omega
      have hFA : FA = (Y, 0) := by
        have := HY.out.2
        rw [List.drop_of_length_le (by omega), walkE, endE, HY.out.1] at this
        rw [← this, ← hY]; rfl
      obtain ⟨v1, v2, v3, v4, ⟨g1, g2, g3, g4⟩, ⟨s1, s2, s3, s4⟩, ⟨f1, f2, f3, f4⟩, ha4, hs4⟩ := nde_store Y HZ.out.2
      have HB6 := Lib.hid (((Stir.of_below (F := fun i => i = w.heap.size) HB.out).trans hs4 (fun i hi => .inl hi)).below (B := w.heap.size) (fun i hi => by omega) (Nat.le_refl _))
      obtain ⟨t0, t1, t2, t3⟩ := ha4.cells
      have HFE := Lib.hid hFA
      unfold zeroN at s1 s2 s3 s4
      simp only at s1 s2 s3 s4
      clear ha4 hs4 hFA hY hz
      go_wp2
      refine bodyPost_ret ?_ rfl ⟨rfl, HB6.out⟩
      rw [results_cell_tmp rfl]
      go_simp
      rw [HFE.out]
      exact ⟨⟨rfl, rfl, rfl, rfl⟩, rfl⟩
end
end Go.Proofs.YtfokdmijkniomaaGreatDoor

namespace Go.Proofs.YtfokdmijkniomaaGreatDoor
open Go.RowKit Go

theorem own_cap {w : World} {base n k : Nat} {e : TypeId} {v : Value} {xs : List Value} (h : w.ownsRow base e k v n xs) : ∀ a m cap, v = .slice a m cap → m ≤ cap := by
  intro a m cap hv
  subst hv
  rcases h.2 with ⟨e, _⟩ | ⟨g, cap', cur, e, h2, h3, h4, _⟩
  · cases e; exact Nat.le_refl _
  · cases e; exact h4
/-- what the document's Path answers, with room -/
def RPathC (s : ByteArray) (e : Ending) (w' : World) : Prop :=
  (∃ l v, IsPath s l ∧ e = .returned (.tuple #[v, .int .i64 0]) ∧ TextsAt w' v l ∧ ∀ a n cap, v = .slice a n cap → n ≤ cap) ∨ ((∀ l, ¬ IsPath s l) ∧ e = .returned (.tuple #[.slice none 0 0, .int .i64 130]))
set_option maxRecDepth 100000 in
set_option maxHeartbeats 8000000 in
theorem rpath2_any (s : ByteArray) (hs : s.size ≤ 281474976710656) (w : World) :
    Calls Tryz.prog 41 #[.string s] w fun e w' => RPathC s e w' ∧ Below w.heap.size w w' := by
  obtain ⟨w1, hw1⟩ : ∃ w1, w.alloc (.cells #[] 9) = w1 := ⟨_, rfl⟩
  have hB1 : Below w.heap.size w w1 := by rw [← hw1]; exact (Below.refl _ w).alloc (Nat.le_refl _) _
  have hr1 : w1.ownsRow w.heap.size 9 1 (.slice (some ⟨w.heap.size, 0, none⟩) 0 0) 0 [] := by rw [← hw1]; exact owns_none w (Nat.le_refl _) _
  have HB1 := Lib.hid hB1
  have HR1 := Lib.hid hr1
  clear hB1 hr1
  by_cases h0 : s.toList = [47]
  · have b0 : (s.toList == [47]) = true := beq_iff_eq.2 h0
    have HE := Lib.hid (show IsPath s [] from ⟨by simp, by simp, .inl ⟨rfl, by rw [← toList_eq, h0]⟩⟩)
    clear h0
    go_enter Tryz.func41, Tryz.ntmps41
    go_wp2
    go_ret2
    exact ⟨.inl ⟨[], _, HE.out, rfl, ⟨_, 0, rfl, fun h => absurd rfl h⟩, fun a n cap e => by cases e; exact Nat.le_refl _⟩, HB1.out⟩
  · have b0 : (s.toList == [47]) = false := beq_eq_false_iff_ne.2 h0
    rw [toList_eq] at h0
    have H0 := Lib.hid h0
    by_cases h1 : s.size = 0
    · have hl : s.data.toList = [] := List.eq_nil_of_length_eq_zero (by rw [len_of]; exact h1)
      have b1 : s.toList.isEmpty = true := by rw [toList_eq, hl]; rfl
      have HE := Lib.hid (show ∀ l, ¬ IsPath s l from fun l h => by
        obtain ⟨_, e⟩ := path_join h H0.out
        rw [hl] at e; cases e)
      have hz : (s.size : Int) = 0 := by omega
      clear h0 h1 hl
      go_enter Tryz.func41, Tryz.ntmps41
      go_wp2
      go_ret2
      exact ⟨.inr ⟨HE.out, rfl⟩, HB1.out⟩
    · have hpos : 0 < s.size := by omega
      have hposi : (0 : Int) < (s.size : Int) := by omega
      have b1 : s.toList.isEmpty = false := by
        rw [toList_eq]
        cases h : s.data.toList with
        | nil => rw [← len_of, h] at h1; exact absurd rfl h1
        | cons _ _ => rfl
      by_cases h2 : s[0] = 47
      · have b2 : ((s[0].toNat : Int) != 47) = false := by rw [h2]; rfl
        have HS := Lib.hid (show RP s [] 1 1 from by
          have hl : s.data.toList = s[0] :: s.data.toList.drop 1 := by
            have := List.drop_eq_getElem_cons (l := s.data.toList) (i := 0) (by rw [len_of]; exact hpos)
            rw [List.drop_zero] at this
            exact this
          exact RP.start (by rw [hl, h2]))
        obtain ⟨i0, hi, hz0, hz1, hz2⟩ := info_parts info9
        have hsz1 := HB1.out.size
        have HR1' := Lib.hid (show w1.ownsRow w.heap.size 9 1 (.slice (some ⟨w.heap.size, 0, none⟩) 0 0) ([] : List ByteArray).length (strVs []) from HR1.out)
        clear h0 h1 h2
        go_enter Tryz.func41, Tryz.ntmps41
        go_wp2
        clear b2 hw1
        go_loopw [4, 5, 6] (fun v f i wr => ∃ (l : List ByteArray) (a b : Nat), f = .int .i64 a ∧ i = .int .i64 b ∧ b ≤ s.size + 1 ∧ a ≤ s.size + 1 ∧ l.length ≤ 8 ∧ Hid (wr.ownsRow w.heap.size 9 1 v l.length (strVs l)) ∧ Hid (Below w.heap.size w wr) ∧ Hid ((b ≤ s.size → RP s l a b) ∧ (b = s.size + 1 → IsPath s l))) (fun _ _ i _ => s.size + 1 - (intOf i).toNat)
        case atStart => exact ⟨[], 1, 1, rfl, rfl, by omega, by omega, by simp, HR1', HB1, Lib.hid ⟨fun _ => HS.out, fun h => absurd h (by omega)⟩⟩
        case round =>
          obtain ⟨l, a, b, rfl, rfl, hb, ha, hl8, HR, HB, HP⟩ := hrel
          obtain ⟨n, hn⟩ : ∃ n, l.length = n := ⟨_, rfl⟩
          obtain ⟨ad, cap, rfl⟩ : ∃ ad cap, u4 = .slice ad n cap := by
            rcases HR.out.2 with ⟨e, e2⟩ | ⟨g, cap, cur, e, _⟩
            · exact ⟨none, 0, by rw [e, ← hn, e2]⟩
            · exact ⟨_, cap, by rw [e, hn]⟩
          by_cases hle : b ≤ s.size
          · have hlei : (b : Int) ≤ (s.size : Int) := by omega
            have HRP := Lib.hid (HP.out.1 hle)
            obtain ⟨ho1, _⟩ := HRP.out.ord
            by_cases hlt : b < s.size
            · have hlti : (b : Int) < (s.size : Int) := by omega
              by_cases hc : s[b] = 47
              · have b2 : ((s[b].toNat : Int) != 47) = false := by rw [hc]; rfl
                have hX16 : True := trivial
                obtain ⟨X, hX⟩ : ∃ X, s.extract a b = X := ⟨_, rfl⟩
                have hXs : X.size ≤ 281474976710656 := by rw [← hX, ByteArray.size_extract]; omega
                have CN := fun w => rname_any X hXs w
                have hszr := HB.out.size
                have hab : (a : Int) ≤ (b : Int) := by omega
                have ha0 : (0 : Int) ≤ (a : Int) := by omega
                have hex : s.extract ((a : Int).toNat) ((b : Int).toNat) = X := hX
                have hBad := Lib.hid (fun (h : ¬ NameOk X ∨ l.length = 8) => HRP.out.bad H0.out (.inr ⟨hlt, hc⟩) (by rw [hX]; exact h))
                have hGood := Lib.hid (fun (h : NameOk X) (h8 : l.length ≠ 8) => (hX ▸ HRP.out.cut hlt hc (hX.symm ▸ h) h8 : RP s (l ++ [X]) (b + 1) (b + 1)))
                clear hc
                by_cases hnm : NameOk X
                · rw [nameB_yes hnm] at CN
                  by_cases h8 : l.length = 8
                  · have HE := Lib.hid (hBad.out (.inr h8))
                    have hl8i : ((l.length : Int) == 8) = true := by rw [h8]; rfl
                    rw [hn] at hl8i
                    clear hnm h8
                    go_wp2_with (refine (CN _).mono ?_; rintro e w' ⟨rfl, rfl⟩)
                    go_ret2
                    exact ⟨.inr ⟨HE.out, rfl⟩, HB.out⟩
                  · have HE := Lib.hid (hGood.out hnm h8)
                    have h9 : l.length + 1 ≤ 8 := by omega
                    have hl8i : ((l.length : Int) == 8) = false := beq_eq_false_iff_ne.2 (by omega)
                    rw [hn] at hl8i
                    clear hnm h8
                    go_wp2_with fail
                    refine (CN _).mono ?_
                    rintro e w' ⟨rfl, rfl⟩
                    go_wp2_with (at_builtin; go_loud (refine wpList_append_own _ rfl _ _ 45 rfl w.heap.size 9 i0 (.string ⟨#[]⟩) 1 16 Tryz.underlying45 hi hz0 hz1 hz2 rfl (by decide) _ _ _ rfl (HR.out.alloc _) ⟨wr.heap.size, 0, none⟩ 1 1 [.string X] rfl rfl (cell_one_made _ _ _) (by simp [Value.oneCell']) (by unfold maxLen; omega) (by omega) (Nat.le_trans hszr (by simp)) ?_; intro v' w5 hown' hgrow _; have HB5 := Lib.hid (HB.out.trans (((Below.refl _ wr).alloc hszr _).grown hgrow (by simp; omega) (fun j ej => (HR.out.lt j ej).1))); have HO := Lib.hid hown'; clear hown' hgrow))
                    go_roundw
                    case rel => exact ⟨l ++ [X], b + 1, b + 1, by go_num, by go_num, by omega, by omega, by simp; omega, Lib.hid (by rw [List.length_append, strVs_snoc]; exact HO.out), HB5, Lib.hid ⟨fun _ => HE.out, fun h => absurd h (by omega)⟩⟩
                    case measure => simp [intOf]; omega
                · rw [nameB_no hnm] at CN
                  have HE := Lib.hid (hBad.out (.inl hnm))
                  clear hnm
                  go_wp2_with (refine (CN _).mono ?_; rintro e w' ⟨rfl, rfl⟩)
                  go_ret2
                  exact ⟨.inr ⟨HE.out, rfl⟩, HB.out⟩
              · have b2 : ((s[b].toNat : Int) != 47) = true := bne_iff_ne.2 (fun e => hc (UInt8.toNat_inj.1 (by simpa using Int.ofNat_inj.1 e)))
                have HS2 := Lib.hid (HRP.out.go hlt hc)
                clear hc
                go_wp2
                go_roundw
                case rel => exact ⟨l, a, b + 1, rfl, by go_num, by omega, ha, hl8, HR, HB, Lib.hid ⟨fun _ => HS2.out, fun h => absurd h (by omega)⟩⟩
                case measure => simp [intOf]; omega
            · have hbe : b = s.size := by omega
              have hlti : ¬ (b : Int) < (s.size : Int) := by omega
              have hX16 : True := trivial
              obtain ⟨X, hX⟩ : ∃ X, s.extract a b = X := ⟨_, rfl⟩
              have hXs : X.size ≤ 281474976710656 := by rw [← hX, ByteArray.size_extract]; omega
              have CN := fun w => rname_any X hXs w
              have hszr := HB.out.size
              have hab : (a : Int) ≤ (b : Int) := by omega
              have ha0 : (0 : Int) ≤ (a : Int) := by omega
              have hex : s.extract ((a : Int).toNat) ((b : Int).toNat) = X := hX
              have hBad := Lib.hid (fun (h : ¬ NameOk X ∨ l.length = 8) => HRP.out.bad H0.out (.inl hbe) (by rw [hX]; exact h))
              have hGood := Lib.hid (fun (h : NameOk X) (h8 : l.length ≠ 8) => (by subst hbe; rw [← hX]; exact HRP.out.last (by rw [hX]; exact h) h8 : IsPath s (l ++ [X])))
              clear hX16 hbe
              by_cases hnm : NameOk X
              · rw [nameB_yes hnm] at CN
                by_cases h8 : l.length = 8
                · have HE := Lib.hid (hBad.out (.inr h8))
                  have hl8i : ((l.length : Int) == 8) = true := by rw [h8]; rfl
                  rw [hn] at hl8i
                  clear hnm h8
                  go_wp2_with (refine (CN _).mono ?_; rintro e w' ⟨rfl, rfl⟩)
                  go_ret2
                  exact ⟨.inr ⟨HE.out, rfl⟩, HB.out⟩
                · have HE := Lib.hid (hGood.out hnm h8)
                  have h9 : l.length + 1 ≤ 8 := by omega
                  have hl8i : ((l.length : Int) == 8) = false := beq_eq_false_iff_ne.2 (by omega)
                  rw [hn] at hl8i
                  clear hnm h8
                  go_wp2_with fail
                  refine (CN _).mono ?_
                  rintro e w' ⟨rfl, rfl⟩
                  go_wp2_with (at_builtin; go_loud (refine wpList_append_own _ rfl _ _ 45 rfl w.heap.size 9 i0 (.string ⟨#[]⟩) 1 16 Tryz.underlying45 hi hz0 hz1 hz2 rfl (by decide) _ _ _ rfl (HR.out.alloc _) ⟨wr.heap.size, 0, none⟩ 1 1 [.string X] rfl rfl (cell_one_made _ _ _) (by simp [Value.oneCell']) (by unfold maxLen; omega) (by omega) (Nat.le_trans hszr (by simp)) ?_; intro v' w5 hown' hgrow _; have HB5 := Lib.hid (HB.out.trans (((Below.refl _ wr).alloc hszr _).grown hgrow (by simp; omega) (fun j ej => (HR.out.lt j ej).1))); have HO := Lib.hid hown'; clear hown' hgrow))
                  go_roundw
                  case rel => exact ⟨l ++ [X], b + 1, b + 1, by go_num, by go_num, by omega, by omega, by simp; omega, Lib.hid (by rw [List.length_append, strVs_snoc]; exact HO.out), HB5, Lib.hid ⟨fun h => absurd h (by omega), fun _ => HE.out⟩⟩
                  case measure => simp [intOf]; omega
              · rw [nameB_no hnm] at CN
                have HE := Lib.hid (hBad.out (.inl hnm))
                clear hnm
                go_wp2_with (refine (CN _).mono ?_; rintro e w' ⟨rfl, rfl⟩)
                go_ret2
                exact ⟨.inr ⟨HE.out, rfl⟩, HB.out⟩
          · have hbe : b = s.size + 1 := by omega
            have hlei : ¬ (b : Int) ≤ (s.size : Int) := by omega
            have HE := Lib.hid (HP.out.2 hbe)
            clear hbe
            have HT := Lib.hid (show TextsAt wr _ l ∧ _ from ⟨texts_of_row HR.out, own_cap HR.out⟩)
            go_wp2
            go_ret2
            exact ⟨.inl ⟨l, _, HE.out, rfl, HT.out.1, HT.out.2⟩, HB.out⟩
      · have b2 : ((s[0].toNat : Int) != 47) = true := bne_iff_ne.2 (fun e => h2 (UInt8.toNat_inj.1 (by simpa using Int.ofNat_inj.1 e)))
        have HE := Lib.hid (show ∀ l, ¬ IsPath s l from fun l h => by
          obtain ⟨_, e⟩ := path_join h H0.out
          have hl : s.data.toList = s[0] :: s.data.toList.drop 1 := by
            have := List.drop_eq_getElem_cons (l := s.data.toList) (i := 0) (by rw [len_of]; exact hpos)
            rw [List.drop_zero] at this
            exact this
          rw [hl] at e
          exact h2 (List.cons.inj e).1)
        clear h0 h1 h2
        go_enter Tryz.func41, Tryz.ntmps41
        go_wp2
        go_ret2
        exact ⟨.inr ⟨HE.out, rfl⟩, HB1.out⟩
end Go.Proofs.YtfokdmijkniomaaGreatDoor

namespace Go.Proofs.YtfokdmijkniomaaGreatDoor
open Go.RowKit Go Go.Maps

/-- some bytes of a text -/
def piece (d : ByteArray) (a n : Nat) : ByteArray := bs ((d.data.toList.drop a).take n)
/-- what Read answers -/
noncomputable def readV (T : List Nod) (s : ByteArray) (a n : Int) : ByteArray × Int :=
  match fileR T s with
  | .error e => (⟨#[]⟩, e)
  | .ok k => match nodeAt T k with
    | none => (⟨#[]⟩, 141)
    | some x => if a < 0 ∨ n < 0 then (⟨#[]⟩, 145) else (piece x.data a.toNat n.toNat, 0)
theorem fileR_err {T : List Nod} {s : ByteArray} {e : Int} (h : fileR T s = .error e) : e = 140 ∨ e = 141 ∨ e = 143 := by
  unfold fileR at h
  split at h
  · rename_i hw; cases h; exact findR_err hw
  · split at h
    · cases h; exact .inr (.inr rfl)
    · cases h
theorem fileR_ok {T : List Nod} (hF : Formed T) {s : ByteArray} {k : Int} (h : fileR T s = .ok k) : ∃ x, nodeAt T k = some x ∧ x.dir = false := by
  unfold fileR at h
  split at h
  · cases h
  · rename_i j hw
    split at h
    · cases h
    · rename_i hd
      cases h
      obtain ⟨x, hx⟩ := findR_node hF hw
      rw [(isDir_at hx).1] at hd
      exact ⟨x, hx, by simpa using hd⟩
theorem piece_is (d : ByteArray) {a n A N : Nat} (hA : A = min a d.size) (hN : N = min n (d.size - A)) : (d.extract A d.size).extract 0 N = piece d a n := by
  apply ba_ext
  have e1 : d.data.toList.length = d.size := Array.length_toList (xs := d.data)
  have e2 : ((d.extract A d.size).extract 0 N).data.toList = (d.extract A d.size).data.toList.take N := Lib.extract_from_zero _ N
  have e3 : (d.extract A d.size).data.toList = d.data.toList.drop A := Lib.extract_to_end d A
  unfold piece
  rw [e2, e3, bs_list]
  by_cases h : a ≤ d.size
  · have : A = a := by omega
    subst this
    by_cases h2 : n ≤ d.size - A
    · have e : N = n := by omega
      rw [e]
    · have : N = d.size - A := by omega
      have e4 : (d.data.toList.drop A).length ≤ N := by rw [List.length_drop]; omega
      have e5 : (d.data.toList.drop A).length ≤ n := by rw [List.length_drop]; omega
      rw [List.take_of_length_le e4, List.take_of_length_le e5]
  · have : A = d.size := by omega
    have e4 : d.data.toList.drop A = [] := List.drop_of_length_le (by omega)
    have e5 : d.data.toList.drop a = [] := List.drop_of_length_le (by omega)
    rw [e4, e5]; simp
section
variable {w w' w2 : World} {c m : Nat} {P : Int → Nat} {G : Int → Option Nat} {T : List Nod} {D : DataW Unit}
set_option maxRecDepth 100000 in
set_option maxHeartbeats 2000000 in
theorem fread_any (h : TreeAt c m P G T D w) (hF : Formed T) {s : ByteArray} (hs : s.size ≤ 281474976710656) (a n : Int) (_ : IntOk a) (_ : IntOk n) :
    Calls Tryz.prog 13 #[.pointer (some ⟨c, 0, none⟩), .string s, .int .i64 a, .int .i64 n] w fun e w' => e = .returned (.tuple #[.string (readV T s a n).1, .int .i64 (readV T s a n).2]) ∧ Below w.heap.size w w' := by
  have C := file_any h hF hs
  have HH := Lib.hid h
  have HF := Lib.hid hF
  unfold readV
  cases hf : fileR T s with
  | error e =>
    have he := fileR_err hf
    have he0 : (e != 0) = true := by simp; omega
    rw [hf] at C
    unfold walkRes at C
    simp only at C ⊢
    clear h hF hf he
    go_enter Tryz.func13, Tryz.ntmps13
    go_wp2_with fail
    refine C.mono ?_
    rintro e w1 ⟨rfl, hB1⟩
    go_wp2
    go_ret2
    exact ⟨rfl, hB1⟩
  | ok k =>
    obtain ⟨x, hx, hd⟩ := fileR_ok HF.out hf
    rw [hf] at C
    unfold walkRes at C
    simp only at C ⊢
    rw [hx]
    simp only
    have CN := fun w1 (hB : Below w.heap.size w w1) => NObj.c3 ((HH.out.later hB).node k x hx).obj
    by_cases ha : a < 0
    · rw [if_pos (.inl ha)]
      clear h hF hf hx hd
      go_enter Tryz.func13, Tryz.ntmps13
      go_wp2_with fail
      refine C.mono ?_
      rintro e w1 ⟨rfl, hB1⟩
      clear CN
      go_wp2
      go_ret2
      exact ⟨rfl, hB1⟩
    · by_cases hn : n < 0
      · rw [if_pos (.inr hn)]
        clear h hF hf hx hd
        go_enter Tryz.func13, Tryz.ntmps13
        go_wp2_with fail
        refine C.mono ?_
        rintro e w1 ⟨rfl, hB1⟩
        clear CN
        go_wp2
        go_ret2
        exact ⟨rfl, hB1⟩
      · rw [if_neg (fun f => f.elim ha hn)]
        have hdl := ((HF.out.nodeOk hx).2.1 hd).2
        obtain ⟨A, hA⟩ : ∃ A, A = min a.toNat x.data.size := ⟨_, rfl⟩
        obtain ⟨N, hN⟩ : ∃ N, N = min n.toNat (x.data.size - A) := ⟨_, rfl⟩
        have HP := Lib.hid (piece_is x.data hA hN)
        have hAz : min a (x.data.size : Int) = (A : Int) := by omega
        have hA1 : A ≤ x.data.size := by omega
        obtain ⟨X, hX⟩ : ∃ X, x.data.extract A x.data.size = X := ⟨_, rfl⟩
        have hXs : X.size = x.data.size - A := by rw [← hX, ByteArray.size_extract]; omega
        have hNz : min n (X.size : Int) = (N : Int) := by omega
        have hN1 : N ≤ X.size := by omega
        have CC := fun w => clone_any (X.extract 0 N) (by rw [ByteArray.size_extract]; omega) w
        have HX := Lib.hid hX
        have HQ := Lib.hid (show piece x.data a.toNat n.toNat = X.extract 0 N by rw [← HP.out, HX.out])
        rw [HQ.out]
        have HAN := Lib.hid (And.intro hA hN)
        clear h hF hf hx hd hA hN hXs hdl
        go_enter Tryz.func13, Tryz.ntmps13
        go_wp2_with fail
        refine C.mono ?_
        rintro e w1 ⟨rfl, hB1⟩
        have d3 := CN w1 hB1
        have HB1 := Lib.hid hB1
        clear CN hB1 C
        go_wp2
        go_quiet (fail)
        go_wp2_with fail
        refine (CC _).mono ?_
        rintro e w2 ⟨rfl, hB2⟩
        go_wp2
        go_ret2
        exact ⟨rfl, (below_drewN HB1.out _).trans (hB2.mono HB1.out.size)⟩
end
end Go.Proofs.YtfokdmijkniomaaGreatDoor

namespace Go.Proofs.YtfokdmijkniomaaGreatDoor
open Go.RowKit Go Go.Maps

/-- a node that is put into a new variable -/
theorem nde_box (R : Nde) (W : World) : ∃ wA u1 u2 u3 u4, W.alloc (.cells #[.int .i64 0, .bool false, .int .i64 0, .string ⟨#[]⟩] 38) = wA ∧
    (wA.setCell ⟨W.heap.size, 0, none⟩ (.int .i64 R.num) = u1 ∧ u1.setCell ⟨W.heap.size, 1, none⟩ (.bool R.dir) = u2 ∧ u2.setCell ⟨W.heap.size, 2, none⟩ (.int .i64 R.links) = u3 ∧ u3.setCell ⟨W.heap.size, 3, none⟩ (.string R.data) = u4) ∧
    (wA.cell? ⟨W.heap.size, 0, none⟩ = some (.int .i64 0) ∧ u1.cell? ⟨W.heap.size, 1, none⟩ = some (.bool false) ∧ u2.cell? ⟨W.heap.size, 2, none⟩ = some (.int .i64 0) ∧ u3.cell? ⟨W.heap.size, 3, none⟩ = some (.string ⟨#[]⟩)) ∧
    (wA.frozen? ⟨W.heap.size, 0, none⟩ = false ∧ u1.frozen? ⟨W.heap.size, 1, none⟩ = false ∧ u2.frozen? ⟨W.heap.size, 2, none⟩ = false ∧ u3.frozen? ⟨W.heap.size, 3, none⟩ = false) ∧ NdeAt R W.heap.size u4 ∧ Below W.heap.size W u4 ∧ W.heap.size < u4.heap.size := by
  obtain ⟨wA, hA⟩ : ∃ wA, W.alloc (NdeObj zeroN) = wA := ⟨_, rfl⟩
  have hB : Below W.heap.size W wA := by rw [← hA]; exact (Below.refl _ W).alloc (Nat.le_refl _) _
  have z : NdeAt zeroN W.heap.size wA := by rw [← hA]; exact .new _ _
  obtain ⟨u1, u2, u3, u4, h1, h2, h3, h4, h5⟩ := nde_store R z
  exact ⟨wA, u1, u2, u3, u4, hA, h1, h2, h3, h4, ((Stir.of_below (F := fun i => i = W.heap.size) hB).trans h5 (fun i hi => .inl hi)).below (B := W.heap.size) (fun i hi => by omega) (Nat.le_refl _), lt_of_heap h4.obj⟩
/-- a node that is told in a result's variable -/
theorem nde_tell (R : Nde) {b : Nat} {w W : World} (hb : w.heap.size ≤ b) (hB : Below w.heap.size w W) (h : NdeAt zeroN b W) : ∃ u1 u2 u3 u4,
    (W.setCell ⟨b, 0, none⟩ (.int .i64 R.num) = u1 ∧ u1.setCell ⟨b, 1, none⟩ (.bool R.dir) = u2 ∧ u2.setCell ⟨b, 2, none⟩ (.int .i64 R.links) = u3 ∧ u3.setCell ⟨b, 3, none⟩ (.string R.data) = u4) ∧
    (W.cell? ⟨b, 0, none⟩ = some (.int .i64 0) ∧ u1.cell? ⟨b, 1, none⟩ = some (.bool false) ∧ u2.cell? ⟨b, 2, none⟩ = some (.int .i64 0) ∧ u3.cell? ⟨b, 3, none⟩ = some (.string ⟨#[]⟩)) ∧
    (W.frozen? ⟨b, 0, none⟩ = false ∧ u1.frozen? ⟨b, 1, none⟩ = false ∧ u2.frozen? ⟨b, 2, none⟩ = false ∧ u3.frozen? ⟨b, 3, none⟩ = false) ∧
    (u4.cell? ⟨b, 0, none⟩ = some (.int .i64 R.num) ∧ u4.cell? ⟨b, 1, none⟩ = some (.bool R.dir) ∧ u4.cell? ⟨b, 2, none⟩ = some (.int .i64 R.links) ∧ u4.cell? ⟨b, 3, none⟩ = some (.string R.data)) ∧ Hid (Below w.heap.size w u4) := by
  obtain ⟨u1, u2, u3, u4, h1, h2, h3, h4, h5⟩ := nde_store R h
  exact ⟨u1, u2, u3, u4, h1, h2, h3, h4.cells, Lib.hid (((Stir.of_below (F := fun i => i = b) hB).trans h5 (fun i hi => .inl hi)).below (B := w.heap.size) (fun i hi => by omega) (Nat.le_refl _))⟩
theorem getV_path {T : List Nod} {s : ByteArray} {l : List ByteArray} (h : IsPath s l) : getV T s = findA (findE T l) := by
  unfold getV findE
  rw [findR_yes h]
  cases walkE T 1 l with
  | error e => rfl
  | ok k =>
    simp only
    cases nodeAt T k <;> rfl
theorem getV_none {T : List Nod} {s : ByteArray} (h : ∀ l, ¬ IsPath s l) : getV T s = (zeroN, 140) := by
  unfold getV
  rw [findR_no h]
section
variable {tb : Nat} {lv : Value} {T : List Nod} {w w' : World}

set_option maxRecDepth 100000 in
set_option maxHeartbeats 8000000 in
theorem rget_any (h : RTIs tb lv T w) (hF : Formed T) {s : ByteArray} (hs : s.size ≤ 281474976710656) :
    Calls Tryz.prog 12 #[.pointer (some ⟨tb, 0, none⟩), .string s] w fun e w' => e = .returned (.tuple #[ndeV (getV T s).1, .int .i64 (getV T s).2]) ∧ Below w.heap.size w w' := by
  obtain ⟨FA, hFA⟩ : ∃ A, getV T s = A := ⟨_, rfl⟩
  have HFA := Lib.hid hFA
  rw [hFA]
  obtain ⟨w1, hw1⟩ : ∃ w1, w.alloc (NdeObj zeroN) = w1 := ⟨_, rfl⟩
  have hB1 : Below w.heap.size w w1 := by rw [← hw1]; exact (Below.refl _ w).alloc (Nat.le_refl _) _
  have z1 : NdeAt zeroN w.heap.size w1 := by rw [← hw1]; exact .new _ _
  have CP := rpath2_any s hs w1
  have HH := Lib.hid h
  have HF := Lib.hid hF
  have HB1 := Lib.hid hB1
  have HZ1 := Lib.hid z1
  unfold NdeObj zeroN at hw1
  simp only at hw1
  clear h hF hB1 z1 hFA hs
  unfold ndeV
  go_enter Tryz.func12, Tryz.ntmps12
  go_wp2_with fail
  refine CP.mono ?_
  rintro e w2 ⟨hE, hB2⟩
  have HB2 := Lib.hid (HB1.out.trans (hB2.mono HB1.out.size))
  have HZ2 := Lib.hid (HZ1.out.later hB2)
  rcases hE with ⟨l, v, hp, rfl, ht, -⟩ | ⟨hno, rfl⟩
  · as_aux_lemma =>
    have CF := rfind_any (HH.out.later HB2.out) HF.out ht (by have := (path_names hp).1; omega)
    have HFE := Lib.hid (show findA (findE T l) = FA from by rw [← HFA.out]; exact (getV_path hp).symm)
    rw [HFE.out] at CF
    unfold ndeV at CF
    clear hB2 CP hp
    go_wp2_with fail
    obtain ⟨aa, capa, rfl, hta⟩ := ht
    clear hta
    refine CF.mono ?_
    rintro e w3 ⟨rfl, hB3⟩
    have HB3 := Lib.hid (HB2.out.trans (hB3.mono HB2.out.size))
    have HZ3 := Lib.hid (HZ2.out.later hB3)
    obtain ⟨v1, v2, v3, v4, ⟨g1, g2, g3, g4⟩, ⟨s1, s2, s3, s4⟩, ⟨f1, f2, f3, f4⟩, ⟨t0, t1, t2, t3⟩, HBF⟩ := nde_tell FA.1 (b := w.heap.size) (Nat.le_refl _) HB3.out HZ3.out
    clear CF hB3
    go_wp2
    refine bodyPost_ret ?_ rfl ⟨rfl, HBF.out⟩
    rw [results_cell_tmp rfl]
    go_simp
    try rfl
  · as_aux_lemma =>
    have HFE := Lib.hid (show FA = (zeroN, 140) from by rw [← HFA.out]; exact getV_none hno)
    clear hB2 CP hno
    obtain ⟨v1, v2, v3, v4, ⟨g1, g2, g3, g4⟩, ⟨s1, s2, s3, s4⟩, ⟨f1, f2, f3, f4⟩, ⟨t0, t1, t2, t3⟩, HBF⟩ := nde_tell zeroN (b := w.heap.size) (Nat.le_refl _) HB2.out HZ2.out
    unfold zeroN at g1 g2 g3 g4 t0 t1 t2 t3
    simp only at g1 g2 g3 g4 t0 t1 t2 t3
    clear hw1
    go_wp2
    refine bodyPost_ret ?_ rfl ⟨rfl, HBF.out⟩
    rw [results_cell_tmp rfl]
    go_simp
    rw [HFE.out]
    exact ⟨⟨rfl, rfl, rfl, rfl⟩, rfl⟩

theorem readV_file {T : List Nod} (hF : Formed T) {s : ByteArray} {a n : Int} : readV T s a n = if (getV T s).2 ≠ 0 then (⟨#[]⟩, (getV T s).2) else if (getV T s).1.dir = true then (⟨#[]⟩, 143) else if a < 0 ∨ n < 0 then (⟨#[]⟩, 145) else (piece (getV T s).1.data a.toNat n.toNat, 0) := by
  unfold readV fileR getV
  cases h : findR T s with
  | error e =>
    have := findR_err h
    simp only
    rw [if_pos (by omega)]
  | ok k =>
    obtain ⟨x, hx⟩ := findR_node hF h
    have e1 := (isDir_at hx).1
    cases hd : x.dir with
    | true => simp [hx, e1, hd, told]
    | false => simp [hx, e1, hd, told, toldB]
theorem getV_size {T : List Nod} (hF : Formed T) (s : ByteArray) : (getV T s).1.data.size ≤ 16384 := by
  unfold getV
  split
  · show (⟨#[]⟩ : ByteArray).size ≤ 16384; decide
  · split
    · show (⟨#[]⟩ : ByteArray).size ≤ 16384; decide
    · rename_i x hx
      exact (NodOf.of hF (at_mem hx).1).2.2.2.1
set_option maxRecDepth 100000 in
set_option maxHeartbeats 8000000 in
theorem rread_any (h : RTIs tb lv T w) (hF : Formed T) {s : ByteArray} (hs : s.size ≤ 281474976710656) (a n : Int) :
    Calls Tryz.prog 14 #[.pointer (some ⟨tb, 0, none⟩), .string s, .int .i64 a, .int .i64 n] w fun e w' => e = .returned (.tuple #[.string (readV T s a n).1, .int .i64 (readV T s a n).2]) ∧ Below w.heap.size w w' := by
  have CG := rget_any h hF hs
  rw [readV_file hF]
  have hdl := getV_size hF s
  obtain ⟨⟨⟨rn, rd, rl, rb⟩, E⟩, hFA⟩ : ∃ A, getV T s = A := ⟨_, rfl⟩
  rw [hFA] at CG hdl ⊢
  unfold ndeV at CG
  simp only at CG hdl ⊢
  clear h hF hs hFA
  by_cases hE : E = 0
  · rw [if_neg (fun f => f hE)]
    subst hE
    cases rd with
    | true => as_aux_lemma =>
      rw [if_pos rfl]
      go_enter Tryz.func14, Tryz.ntmps14
      go_wp2_with fail
      refine CG.mono ?_
      rintro e w1 ⟨rfl, hB1⟩
      obtain ⟨wA, x1, x2, x3, x4, hwA, ⟨k1, k2, k3, k4⟩, ⟨p1, p2, p3, p4⟩, ⟨r1, r2, r3, r4⟩, HN, hBB, hsz⟩ := nde_box ⟨rn, true, rl, rb⟩ w1
      have HN := Lib.hid HN
      simp only at k1 k2 k3 k4
      have HB4 := Lib.hid (hB1.trans (hBB.mono hB1.size))
      obtain ⟨-, c1, -, -⟩ := HN.out.cells
      simp only at c1
      clear hB1 hBB hsz CG hdl
      go_wp2
      go_ret2
      exact ⟨rfl, HB4.out⟩
    | false =>
      rw [if_neg (by simp)]
      by_cases ha : a < 0 ∨ n < 0
      · as_aux_lemma =>
        rw [if_pos ha]
        have hab : (decide (a < 0)) = false → (decide (n < 0)) = true := fun h => by
          have := of_decide_eq_false h
          exact decide_eq_true (by omega)
        by_cases ha0 : a < 0
        · go_enter Tryz.func14, Tryz.ntmps14
          go_wp2_with fail
          refine CG.mono ?_
          rintro e w1 ⟨rfl, hB1⟩
          obtain ⟨wA, x1, x2, x3, x4, hwA, ⟨k1, k2, k3, k4⟩, ⟨p1, p2, p3, p4⟩, ⟨r1, r2, r3, r4⟩, HN, hBB, hsz⟩ := nde_box ⟨rn, false, rl, rb⟩ w1
          have HN := Lib.hid HN
          simp only at k1 k2 k3 k4
          have HB4 := Lib.hid (hB1.trans (hBB.mono hB1.size))
          obtain ⟨-, c1, -, -⟩ := HN.out.cells
          simp only at c1
          clear hB1 hBB hsz CG hdl hab ha
          go_wp2
          go_ret2
          exact ⟨rfl, HB4.out⟩
        · have hn0 : n < 0 := by omega
          go_enter Tryz.func14, Tryz.ntmps14
          go_wp2_with fail
          refine CG.mono ?_
          rintro e w1 ⟨rfl, hB1⟩
          obtain ⟨wA, x1, x2, x3, x4, hwA, ⟨k1, k2, k3, k4⟩, ⟨p1, p2, p3, p4⟩, ⟨r1, r2, r3, r4⟩, HN, hBB, hsz⟩ := nde_box ⟨rn, false, rl, rb⟩ w1
          have HN := Lib.hid HN
          simp only at k1 k2 k3 k4
          have HB4 := Lib.hid (hB1.trans (hBB.mono hB1.size))
          obtain ⟨-, c1, -, -⟩ := HN.out.cells
          simp only at c1
          clear hB1 hBB hsz CG hdl hab ha
          go_wp2
          go_ret2
          exact ⟨rfl, HB4.out⟩
      · as_aux_lemma =>
        rw [if_neg ha]
        have ha0 : ¬ a < 0 := fun h => ha (.inl h)
        have hn0 : ¬ n < 0 := fun h => ha (.inr h)
        obtain ⟨A, hA⟩ : ∃ A, A = min a.toNat rb.size := ⟨_, rfl⟩
        obtain ⟨N, hN⟩ : ∃ N, N = min n.toNat (rb.size - A) := ⟨_, rfl⟩
        have HP := Lib.hid (piece_is rb hA hN)
        have hAz : min a (rb.size : Int) = (A : Int) := by omega
        have hA1 : A ≤ rb.size := by omega
        obtain ⟨X, hX⟩ : ∃ X, rb.extract A rb.size = X := ⟨_, rfl⟩
        have hXs : X.size = rb.size - A := by rw [← hX, ByteArray.size_extract]; omega
        have hNz : min n (X.size : Int) = (N : Int) := by omega
        have hN1 : N ≤ X.size := by omega
        have HX := Lib.hid hX
        have HQ := Lib.hid (show piece rb a.toNat n.toNat = X.extract 0 N by rw [← HP.out, HX.out])
        rw [HQ.out]
        clear hA hN hXs ha
        go_enter Tryz.func14, Tryz.ntmps14
        go_wp2_with fail
        refine CG.mono ?_
        rintro e w1 ⟨rfl, hB1⟩
        obtain ⟨wA, x1, x2, x3, x4, hwA, ⟨k1, k2, k3, k4⟩, ⟨p1, p2, p3, p4⟩, ⟨r1, r2, r3, r4⟩, HN, hBB, hsz⟩ := nde_box ⟨rn, false, rl, rb⟩ w1
        have HN := Lib.hid HN
        simp only at k1 k2 k3 k4
        have HB4 := Lib.hid (hB1.trans (hBB.mono hB1.size))
        obtain ⟨-, c1, -, c3⟩ := HN.out.cells
        simp only at c1 c3
        clear hB1 hBB hsz CG hdl
        go_wp2
        go_ret2
        exact ⟨rfl, HB4.out⟩
  · as_aux_lemma =>
    rw [if_pos hE]
    have he0 : (E != 0) = true := by simp [hE]
    clear hE
    go_enter Tryz.func14, Tryz.ntmps14
    go_wp2_with fail
    refine CG.mono ?_
    rintro e w1 ⟨rfl, hB1⟩
    obtain ⟨wA, x1, x2, x3, x4, hwA, ⟨k1, k2, k3, k4⟩, ⟨p1, p2, p3, p4⟩, ⟨r1, r2, r3, r4⟩, HN, hBB, hsz⟩ := nde_box ⟨rn, rd, rl, rb⟩ w1
    have HN := Lib.hid HN
    simp only at k1 k2 k3 k4
    have HB4 := Lib.hid (hB1.trans (hBB.mono hB1.size))
    clear hB1 hBB hsz CG hdl
    go_wp2
    go_ret2
    exact ⟨rfl, HB4.out⟩

end
end Go.Proofs.YtfokdmijkniomaaGreatDoor

namespace Go.Proofs.YtfokdmijkniomaaGreatDoor
open Go.RowKit Go Go.Maps

theorem get_cases {T : List Nod} (hF : Formed T) (s : ByteArray) : (∃ e, e ≠ 0 ∧ getV T s = (zeroN, e) ∧ listV T s = .error e) ∨ ∃ x, x ∈ T ∧ getV T s = (told x, 0) ∧ listV T s = if x.dir = true then .ok (x.names.map Ent.name) else .error 143 := by
  unfold getV listV
  cases h : findR T s with
  | error e => exact .inl ⟨e, by have := findR_err h; omega, rfl, rfl⟩
  | ok k =>
    obtain ⟨x, hx⟩ := findR_node hF h
    exact .inr ⟨x, (at_mem hx).1, by simp [hx], by simp [hx]⟩
theorem own_obj {w : World} {base n k : Nat} {e : TypeId} {v : Value} {xs : List Value} (h : w.ownsRow base e k v n xs) {g : Nat} (hg : v.ownBlock = some g) : ∃ cur, w.heap[g]? = some (.cells cur e (0, 0)) := by
  rcases h.2 with ⟨e, _⟩ | ⟨g', cap', cur, rfl, h2, h3, h4, _⟩
  · subst e; cases hg
  · cases hg; exact ⟨cur, h3⟩
/-- what List answers -/
def RListE (r : Except Int (List ByteArray)) (e : Ending) (w' : World) : Prop := match r with
  | .error k => e = .returned (.tuple #[.slice none 0 0, .int .i64 k])
  | .ok l => ∃ v, e = .returned (.tuple #[v, .int .i64 0]) ∧ TextsAt w' v l
theorem heap_alloc_old' {W : World} {b : Nat} {x : Obj} (h : b < W.heap.size) : (W.alloc x).heap[b]? = W.heap[b]? := ((Below.refl _ W).alloc (Nat.le_refl _) x).block b h
section
variable {tb : Nat} {lv : Value} {T : List Nod} {w w' : World}
set_option maxRecDepth 100000 in
set_option maxHeartbeats 8000000 in
theorem rlist_any (h : RTIs tb lv T w) (hF : Formed T) {s : ByteArray} (hs : s.size ≤ 281474976710656) :
    Calls Tryz.prog 16 #[.pointer (some ⟨tb, 0, none⟩), .string s] w fun e w' => RListE (listV T s) e w' ∧ Below w.heap.size w w' := by
  have CG := rget_any h hF hs
  rcases get_cases hF s with ⟨E, hE, hg, hl⟩ | ⟨x, hx, hg, hl⟩
  · as_aux_lemma =>
    rw [hg] at CG
    rw [hl]
    have he0 : (E != 0) = true := by simp [hE]
    unfold RListE
    unfold ndeV zeroN at CG
    simp only at CG ⊢
    clear h hF hs hg hl hE
    go_enter Tryz.func16, Tryz.ntmps16
    go_wp2_with fail
    refine CG.mono ?_
    rintro e w1 ⟨rfl, hB1⟩
    obtain ⟨wA, x1, x2, x3, x4, hwA, ⟨k1, k2, k3, k4⟩, ⟨p1, p2, p3, p4⟩, ⟨r1, r2, r3, r4⟩, HN, hBB, hsz⟩ := nde_box ⟨0, false, 0, ⟨#[]⟩⟩ w1
    have HN := Lib.hid HN
    simp only at k1 k2 k3 k4
    have HB4 := Lib.hid (hB1.trans (hBB.mono hB1.size))
    clear hB1 hBB hsz CG
    go_wp2
    go_ret2
    exact ⟨rfl, HB4.out⟩
  · rw [hg] at CG
    rw [hl]
    have hnd := NodOf.of hF hx
    obtain ⟨⟨rn, rd, rl, rb⟩, hR⟩ : ∃ R, told x = R := ⟨_, rfl⟩
    rw [hR] at CG hnd
    have hxd : x.dir = rd := by have := congrArg Nde.dir hR; exact this
    rw [hxd]
    unfold ndeV at CG
    simp only at CG
    cases rd with
    | false => as_aux_lemma =>
      unfold RListE
      simp only [Bool.false_eq_true, if_false]
      clear h hF hs hg hl hnd hR
      go_enter Tryz.func16, Tryz.ntmps16
      go_wp2_with fail
      refine CG.mono ?_
      rintro e w1 ⟨rfl, hB1⟩
      obtain ⟨wA, x1, x2, x3, x4, hwA, ⟨k1, k2, k3, k4⟩, ⟨p1, p2, p3, p4⟩, ⟨r1, r2, r3, r4⟩, HN, hBB, hsz⟩ := nde_box ⟨rn, false, rl, rb⟩ w1
      have HN := Lib.hid HN
      simp only at k1 k2 k3 k4
      have HB4 := Lib.hid (hB1.trans (hBB.mono hB1.size))
      obtain ⟨-, c1, -, -⟩ := HN.out.cells
      simp only at c1
      clear hB1 hBB hsz CG
      go_wp2
      go_ret2
      exact ⟨rfl, HB4.out⟩
    | true =>
      have hisl : IsL kE rb.data.toList x.names := by
        have := hF.isL hx hxd
        have e : (told x).data = rb := congrArg Nde.data hR
        rw [← e]; exact this
      have hn60 : x.names.length ≤ 60 := (hF.dir x hx hxd).2.2.1
      have hnsz : ∀ e ∈ x.names, e.name.size ≤ 16 := fun e he => ((hF.dir x hx hxd).2.2.2 e he).2.1
      have hrb : rb.size ≤ 16384 := hnd.2.2.2.1
      unfold RListE
      simp only [if_true]
      have HISL := Lib.hid hisl
      have HNS := Lib.hid hnsz
      obtain ⟨i0, hi, hz0, hz1, hz2⟩ := info_parts info9
      clear h hF hs hg hl hnd hR hisl hnsz hx hxd
      go_enter Tryz.func16, Tryz.ntmps16
      go_wp2_with fail
      refine CG.mono ?_
      rintro e w1 ⟨rfl, hB1⟩
      obtain ⟨wA, x1, x2, x3, x4, hwA, ⟨k1, k2, k3, k4⟩, ⟨p1, p2, p3, p4⟩, ⟨r1, r2, r3, r4⟩, HN, hBB, hsz⟩ := nde_box ⟨rn, true, rl, rb⟩ w1
      have HN := Lib.hid HN
      simp only at k1 k2 k3 k4
      have hB4 := hB1.trans (hBB.mono hB1.size)
      obtain ⟨c0, c1, c2, c3⟩ := HN.out.cells
      simp only at c0 c1 c2 c3
      obtain ⟨w5, hw5⟩ : ∃ w5, x4.alloc (.cells #[] 9) = w5 := ⟨_, rfl⟩
      have hB5 : Below x4.heap.size x4 w5 := by rw [← hw5]; exact (Below.refl _ x4).alloc (Nat.le_refl _) _
      have r5 : w5.ownsRow x4.heap.size 9 1 (.slice (some ⟨x4.heap.size, 0, none⟩) 0 0) 0 [] := by rw [← hw5]; exact owns_none x4 (Nat.le_refl _) _
      have CE := rentries_any (x := ⟨rn, true, rl, rb⟩) (l := x.names) HISL.out (by show rb.size ≤ _; omega) w5
      have HN5 := HN.out.later hB5
      obtain ⟨d0, d1, d2, d3⟩ := HN5.cells
      simp only at d0 d1 d2 d3
      unfold ndeV at CE
      simp only at CE
      have HB4 := Lib.hid hB4
      have HB5 := Lib.hid hB5
      have HR5 := Lib.hid r5
      clear hB1 hBB hsz CG hB4 hB5 r5 HN5
      go_wp2_with fail
      refine CE.mono ?_
      rintro e w7 ⟨v7, rfl, hrow7, hB7⟩
      have hls := WT.lst_of_owns (C := entC) (fun _ => rfl) (by decide) hrow7
      have HO7 := Lib.hid hrow7
      obtain ⟨a7, cap7, rfl, hla⟩ := hls
      have HLA := Lib.hid (fun t (ht : t < x.names.length) => show ∃ b7 o7, a7 = some ⟨b7, o7, none⟩ ∧ b7 < w7.heap.size ∧ w7.cell? ⟨b7, o7 + t * 2, none⟩ = some (.string (x.names[t]'(by omega)).name) from by
        obtain ⟨b5, o5, rfl, hb5, hc5⟩ := hla (by intro e; rw [e] at ht; simp at ht)
        exact ⟨b5, o5, rfl, hb5, hc5 t (by omega) 0 (by omega)⟩)
      have HB7 := Lib.hid ((HB5.out.trans (hB7.mono HB5.out.size)))
      have HR7 := Lib.hid (WT.owns_later HR5.out hB7)
      clear CE hrow7 hB7 hla c0 c1 c2 c3 d0 d1 d2 d3
      go_wp2
      go_loopw [8, 10] (fun v i wr => ∃ t : Nat, t ≤ x.names.length ∧ i = .int .i64 t ∧ Hid (wr.ownsRow x4.heap.size 9 1 v t (strVals ((x.names.map Ent.name).take t))) ∧ Hid (Below x4.heap.size x4 wr) ∧ Hid (∀ b, b < w7.heap.size → (Value.slice a7 x.names.length cap7).ownBlock = some b → wr.heap[b]? = w7.heap[b]?)) (fun _ i _ => x.names.length - (intOf i).toNat)
      case atStart => exact ⟨0, Nat.zero_le _, rfl, HR7, HB7, Lib.hid (fun _ _ _ => rfl)⟩
      case round =>
        obtain ⟨t, ht, rfl, HRW, HBx, HK⟩ := hrel
        have hrow := HRW.out
        obtain ⟨av, cv, rfl⟩ := WT.row_shape hrow
        by_cases htm : t < x.names.length
        · have hti : (t : Int) < (x.names.length : Int) := by omega
          obtain ⟨b7, o7, rfl, hb7, hc7⟩ := HLA.out t htm
          have hob : (Value.slice (some ⟨b7, o7, none⟩) x.names.length cap7).ownBlock = some b7 := rfl
          have hkb := HK.out b7 hb7 hob
          obtain ⟨en, hnme⟩ : ∃ n, x.names[t] = n := ⟨_, rfl⟩
          have p0 : wr.cell? ⟨b7, o7 + t * 2, none⟩ = some (.string en.name) := by rw [World.cell?_of_block hkb, ← hnme]; exact hc7
          have HTK := Lib.hid (show strVals ((x.names.map Ent.name).take (t + 1)) = strVals ((x.names.map Ent.name).take t) ++ [.string en.name] from by
            have htn : t < (x.names.map Ent.name).length := by rw [List.length_map]; exact htm
            rw [List.take_succ_eq_append_getElem htn, List.getElem_map, ← hnme]
            unfold strVals
            rw [List.map_append]; rfl)
          have HKB := Lib.hid hkb
          have HB7L := Lib.hid hb7
          have HTM := Lib.hid htm
          have hlo := HBx.out.size
          have hne : ∀ g, (Value.slice av t cv).ownBlock = some g → g ≠ b7 := fun g hg e => by
            subst e
            obtain ⟨cur, h1⟩ := own_obj hrow hg
            obtain ⟨cur2, h2⟩ := own_obj HO7.out hob
            rw [hkb, h2] at h1
            cases h1
          have HNE := Lib.hid hne
          have hb7r : b7 < wr.heap.size := by
            obtain ⟨cur2, h2⟩ := own_obj HO7.out hob
            rw [← hkb] at h2
            exact lt_of_heap h2
          have HB7R := Lib.hid hb7r
          have hnm : en.name.size ≤ 16 := by rw [← hnme]; exact HNS.out x.names[t] (List.getElem_mem _)
          have hw2 : RowKit.wrap64 ((t : Int) + 1) = (t : Int) + 1 := w64_cnt (by omega) (by omega)
          have HW2 := Lib.hid hw2
          clear hc7 hkb hb7 htm hne hb7r hob hnme hw2
          go_wp2_with (at_builtin; go_loud (refine wpList_append_own _ rfl _ _ 45 rfl x4.heap.size 9 i0 (.string ⟨#[]⟩) 1 16 Tryz.underlying45 hi hz0 hz1 hz2 rfl (by decide) _ _ _ rfl (hrow.alloc _) ⟨wr.heap.size, 0, none⟩ 1 1 [.string en.name] rfl rfl (WT.cells_new wr [.string en.name] _) (by simp [Value.oneCell']) (by unfold maxLen; omega) (by omega) (by simp; omega) ?_; intro v' w8 hown' hgrow _; have HB8 := Lib.hid (HBx.out.trans (((Below.refl _ wr).alloc hlo _).grown hgrow (by simp; omega) (fun j ej => (hrow.lt j ej).1))); have HK8 := Lib.hid (show w8.heap[b7]? = w7.heap[b7]? from ((hgrow.block b7 (by have := HB7R.out; simp; omega) (fun e => HNE.out b7 e.symm rfl)).trans (heap_alloc_old' HB7R.out)).trans HKB.out); have HO := Lib.hid hown'; obtain ⟨av2, cv2, rfl⟩ := WT.row_shape hown'; clear hown' hgrow))
          have hw2 := HW2.out
          go_roundw
          case rel => exact ⟨t + 1, HTM.out, (by first | exact num_up hw2 | rfl), Lib.hid (by rw [HTK.out]; exact HO.out), HB8, Lib.hid (fun b _ hb => by cases hb; exact HK8.out)⟩
          case measure => first | exact meas_v HTM.out hw2 rfl rfl | exact meas_u HTM.out rfl rfl
        · have hti : ¬ (t : Int) < (x.names.length : Int) := by omega
          have hte : t = (x.names.map Ent.name).length := by rw [List.length_map]; omega
          have HT := Lib.hid (show TextsAt wr (.slice av t cv) (x.names.map Ent.name) from by
            have h := HRW.out
            have e : (x.names.map Ent.name).take t = x.names.map Ent.name := List.take_of_length_le (by rw [List.length_map]; omega)
            rw [e, hte] at h
            rw [hte]
            exact texts_of_row h)
          clear hrow hte
          go_wp2
          go_ret2
          exact ⟨⟨_, rfl, HT.out⟩, HB4.out.trans (HBx.out.mono HB4.out.size)⟩

end
end Go.Proofs.YtfokdmijkniomaaGreatDoor

