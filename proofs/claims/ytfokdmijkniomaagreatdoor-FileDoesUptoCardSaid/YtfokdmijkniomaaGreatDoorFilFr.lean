/-
  A tree of nodes as others see them: From.
-/
import Derived.Test.YtfokdmijkniomaaGreatDoorFilZ
import Derived.Test.YtfokdmijkniomaaGreatDoorFilNs
namespace Go.Proofs.YtfokdmijkniomaaGreatDoor
open Go.RowKit Go Go.Maps

theorem putN_last {T : List Nod} {y : Nod} (h : ∀ x ∈ T, x.num < y.num) : putN y T = T ++ [y] := by
  unfold putN
  induction T with
  | nil => rfl
  | cons x l ih =>
    have hx : ltI x.num y.num = true := by unfold ltI; exact decide_eq_true (h x (by simp))
    rw [putK, if_pos hx, ih fun z hz => h z (List.mem_cons_of_mem _ hz)]; rfl
/-- nodes that were taken in one by one -/
structure Taken (l : List Nde) (T : List Nod) (last : Int) : Prop where
  each : ∀ i (h : i < T.length) (h2 : i < l.length), NodOf l[i] T[i]
  num : ∀ x ∈ T, 1 ≤ x.num ∧ x.num ≤ last
  last : last = 0 ∨ ∃ x ∈ T, x.num = last
theorem Taken.none (l : List Nde) : Taken l [] 0 := ⟨fun i h => (by simp at h), fun x hx => (by cases hx), .inl rfl⟩
theorem Taken.more {l : List Nde} {T : List Nod} {last : Int} (h : Taken l T last) (hl : T.length < l.length) {y : Nod} (hy : NodOf l[T.length] y) (h1 : ¬ y.num ≤ last) : Taken l (T ++ [y]) y.num := by
  have hb : 0 ≤ last := by
    rcases h.last with e | ⟨x, hx, e⟩
    · omega
    · have := (h.num x hx).1; omega
  refine ⟨fun i hi h2 => ?_, fun x hx => ?_, .inr ⟨y, by simp, rfl⟩⟩
  · rw [List.length_append, List.length_singleton] at hi
    by_cases e : i < T.length
    · rw [List.getElem_append_left e]; exact h.each i e h2
    · have e2 : i = T.length := by omega
      subst e2
      simpa using hy
  · rcases List.mem_append.1 hx with hx | hx
    · have := h.num x hx; omega
    · rw [List.mem_singleton.1 hx]; omega
theorem tolds_len (T : List Nod) : (tolds T).length = T.length := List.length_map _
theorem tolds_get (T : List Nod) (i : Nat) (h : i < (tolds T).length) : (tolds T)[i] = told (T[i]'(by rw [tolds_len] at h; exact h)) := List.getElem_map _
theorem taken_of {U : List Nod} (hU : Formed U) : ∀ i (h : i < U.length) (h2 : i < (tolds U).length), NodOf (tolds U)[i] U[i] := fun i h h2 => by
  rw [tolds_get]
  exact .of hU (List.getElem_mem h)
theorem Taken.no {l : List Nde} {T : List Nod} {last : Int} (h : Taken l T last) (hl : T.length < l.length) (hn : (∀ x, ¬ NodOf l[T.length] x) ∨ l[T.length].num ≤ last) : ∀ U, Formed U → tolds U ≠ l := by
  rintro U hU rfl
  have hul : (tolds U).length = U.length := by unfold tolds; simp
  have hy := taken_of hU T.length (by omega) hl
  rcases hn with hn | hn
  · exact hn _ hy
  · rw [← hy.1] at hn
    have h1 := (hU.num _ (List.getElem_mem (show T.length < U.length by omega))).1
    rcases h.last with e | ⟨x, hx, e⟩
    · omega
    · obtain ⟨i, hi, rfl⟩ := List.mem_iff_getElem.1 hx
      have e1 := h.each i hi (by omega)
      have e2 := taken_of hU i (by omega) (by omega)
      have e3 := (List.pairwise_iff_getElem.1 hU.rise) i T.length (by omega) (by omega) hi
      simp only [ltI, decide_eq_true_eq] at e3
      have e4 := e1.1
      have e5 := e2.1
      omega
theorem Taken.all {l : List Nde} {T : List Nod} {last : Int} (h : Taken l T last) (hl : T.length = l.length) : tolds T = l := by
  refine List.ext_getElem (by unfold tolds; simp [hl]) fun i h1 h2 => ?_
  rw [tolds_get]
  exact (h.each i (by rw [tolds_len] at h1; exact h1) h2).told
theorem Taken.uniq {l : List Nde} {T U : List Nod} {last : Int} (h : Taken l T last) (hl : T.length = l.length) (hU : Formed U) (e : tolds U = l) : U = T := by
  subst e
  have hul : (tolds U).length = U.length := by unfold tolds; simp
  refine List.ext_getElem (by omega) fun i h1 h2 => ?_
  exact (taken_of hU i h1 (by omega)).uniq (h.each i h2 (by omega))
def NdeIn (r : Nde) : Prop := IntOk r.num ∧ IntOk r.links ∧ r.data.size ≤ 281474976710656
theorem Taken.raw {l : List Nde} {T : List Nod} {last : Int} (h : Taken l T last) (hl : T.length = l.length) (h60 : l.length ≤ 60) (hok : ∀ r ∈ l, NdeIn r) : RawT T := by
  refine ⟨by omega, fun x hx => ?_⟩
  have h1 := (h.num x hx).1
  obtain ⟨i, hi, rfl⟩ := List.mem_iff_getElem.1 hx
  obtain ⟨e1, e2, e3, e4, e5⟩ := h.each i hi (by omega)
  obtain ⟨o1, o2, _⟩ := hok l[i] (List.getElem_mem _)
  rw [← e1] at o1
  rw [← e3] at o2
  rcases e5 with ⟨d, b, n⟩ | ⟨d, b, n, n60⟩
  · refine ⟨h1, o1, o2, by rw [n]; exact List.Pairwise.nil, by rw [n]; simp, by rw [n]; simp, fun _ => ⟨n, by rw [b]; exact e4⟩, fun hd => ?_⟩
    rw [e2, d] at hd; cases hd
  · exact ⟨h1, o1, o2, rise_of_may n.1, fun e he => n.1.ok he, n60, fun hd => (by rw [e2, d] at hd; cases hd), fun _ => b⟩
def FromAt (w wr : World) (c m : Nat) (l : List Nde) (j : Nat) (last : Int) : Prop := ∃ P G T D, TreeAt c m P G T D wr ∧ T.length = j ∧ Taken l T last ∧ (∀ k, FootT c m P G T k → w.heap.size ≤ k) ∧ Below w.heap.size w wr
/-- what From answers -/
def FromE (l : List Nde) (w : World) (e : Ending) (w' : World) : Prop :=
  ((∃ T c F, Good T ∧ tolds T = l ∧ e = .returned (.tuple #[.pointer (some ⟨c, 0, none⟩), .int .i64 0]) ∧ TreeIs w.heap.size F c T w') ∨
    ((∀ T, Good T → tolds T ≠ l) ∧ e = .returned (.tuple #[.pointer none, .int .i64 1]))) ∧ Below w.heap.size w w'
set_option maxRecDepth 100000 in
set_option maxHeartbeats 8000000 in
theorem from_any (l : List Nde) (hok : ∀ r ∈ l, NdeIn r) (v : Value) (w : World) (hv : LstAt ndeC 4 w v l) (hg : GE w) :
    Calls Tryz.prog 48 #[v] w fun e w' => FromE l w e w' := by
  obtain ⟨a, cap, rfl, hla⟩ := hv
  by_cases h60 : 60 < l.length
  · have hz : (60 : Int) < (l.length : Int) := by omega
    have HNO := Lib.hid (show ∀ T, Good T → tolds T ≠ l from fun T hT e => by
      have := hT.formed.len
      rw [← e] at h60
      unfold tolds at h60
      rw [List.length_map] at h60
      omega)
    clear hla hg hok h60
    go_enter Tryz.func48, Tryz.ntmps48
    go_wp2
    go_ret2
    exact ⟨.inr ⟨HNO.out, rfl⟩, Below.refl _ _⟩
  have hz : ¬ (60 : Int) < (l.length : Int) := by omega
  obtain ⟨w1, hw1⟩ : ∃ w1, w.alloc (.map #[] 0) = w1 := ⟨_, rfl⟩
  have hB1 : Below w.heap.size w w1 := by rw [← hw1]; exact (Below.refl _ w).alloc (Nat.le_refl _) _
  have hs1 : w1.heap.size = w.heap.size + 1 := by rw [← hw1]; exact Array.size_push _
  have m1 : w1.ownsMap Tryz.prog 3 ptrElem w.heap.size 0 (.map []) := by rw [← hw1]; exact World.ownsMap_made w _ _ _
  obtain ⟨w2, hw2⟩ : ∃ w2, w1.alloc (TObj w.heap.size) = w2 := ⟨_, rfl⟩
  have hB2 : Below w1.heap.size w1 w2 := by rw [← hw2]; exact (Below.refl _ w1).alloc (Nat.le_refl _) _
  have o2 : w2.heap[w1.heap.size]? = some (TObj w.heap.size) := by rw [← hw2]; exact heap_alloc_new w1 _
  have h2 : TreeAt w1.heap.size w.heap.size (fun _ => 0) (fun _ => none) [] (.map []) w2 :=
    ⟨o2, owns_stay m1 (Stir.of_below (F := fun _ => False) hB2) (fun f => f), rfl, fun _ _ => rfl, fun k x hx => (by cases hx), fun k x hx => (by cases hx), fun i j x y g hx => (by cases hx), List.Pairwise.nil⟩
  have HA0 := Lib.hid (show FromAt w w2 w1.heap.size w.heap.size l 0 0 from ⟨_, _, [], _, h2, rfl, .none l, (fun k hk => by
    rcases hk with rfl | rfl | ⟨k, x, hx, _⟩
    · omega
    · exact Nat.le_refl _
    · cases hx), hB1.trans (hB2.mono hB1.size)⟩)
  have HLA := Lib.hid hla
  have HG := Lib.hid hg
  have HOK := Lib.hid hok
  have H60 := Lib.hid h60
  have hmm := @run_makeMap Tryz.prog
  unfold TObj at hw2
  clear hla hg hok h60 hB1 hs1 m1 hB2 o2 h2
  go_enter Tryz.func48, Tryz.ntmps48
  go_wp2
  clear hmm
  go_loopw [5, 18] (fun p i wr => ∃ (j : Nat) (last : Int), j ≤ l.length ∧ i = .int .i64 j ∧ p = .int .i64 last ∧ Hid (FromAt w wr w1.heap.size w.heap.size l j last)) (fun _ i _ => l.length - (intOf i).toNat)
  case atStart => exact ⟨0, 0, Nat.zero_le _, rfl, rfl, HA0⟩
  case round =>
    clear HA0
    obtain ⟨j, last, hj, rfl, rfl, HA⟩ := hrel
    by_cases hlt : j < l.length
    · have hji : (j : Int) < (l.length : Int) := by omega
      obtain ⟨br, off, rfl, hbr, hca⟩ := HLA.out (by rintro rfl; simp at hlt)
      obtain ⟨P, G, T, D, ht, hlen, htk, hft, hB⟩ := HA.out
      subst hlen
      have hrow : ∀ i, wr.cell? ⟨br, i, none⟩ = w.cell? ⟨br, i, none⟩ := fun i => World.cell?_of_block (hB.block br hbr)
      have q0 : wr.cell? ⟨br, off + T.length * 4, none⟩ = some (.int .i64 l[T.length].num) := by rw [hrow]; exact hca T.length hlt 0 (by omega)
      have q1 : wr.cell? ⟨br, off + T.length * 4 + 1, none⟩ = some (.bool l[T.length].dir) := by rw [hrow]; exact hca T.length hlt 1 (by omega)
      have q2 : wr.cell? ⟨br, off + T.length * 4 + 2, none⟩ = some (.int .i64 l[T.length].links) := by rw [hrow]; exact hca T.length hlt 2 (by omega)
      have q3 : wr.cell? ⟨br, off + T.length * 4 + 3, none⟩ = some (.string l[T.length].data) := by rw [hrow]; exact hca T.length hlt 3 (by omega)
      obtain ⟨on, ol, od⟩ := HOK.out l[T.length] (List.getElem_mem hlt)
      have HMORE := Lib.hid (fun y (hy : NodOf l[T.length] y) h1 => htk.more hlt (y := y) hy h1)
      have HNO := Lib.hid (htk.no hlt)
      generalize l[T.length] = rn at *
      obtain ⟨w3, hw3⟩ : ∃ w3, wr.alloc (NdeObj zeroN) = w3 := ⟨_, rfl⟩
      have hB3 : Below wr.heap.size wr w3 := by rw [← hw3]; exact (Below.refl _ wr).alloc (Nat.le_refl _) _
      have z3 : NdeAt zeroN wr.heap.size w3 := by rw [← hw3]; exact .new _ _
      have hrow3 : ∀ {i : Nat} {x : Value}, wr.cell? ⟨br, i, none⟩ = some x → w3.cell? ⟨br, i, none⟩ = some x := fun hx => (hB3.cell (p := ⟨br, _, none⟩) (lt_of_cell hx)).trans hx
      have p0 := hrow3 q0
      have p1 := hrow3 q1
      have p2 := hrow3 q2
      have p3 := hrow3 q3
      obtain ⟨u1, u2, u3, u4, ⟨e1, e2, e3, e4⟩, ⟨s1, s2, s3, s4⟩, ⟨f1, f2, f3, f4⟩, ha4, hs4⟩ := nde_store rn z3
      obtain ⟨t0, t1, t2, t3⟩ := ha4.cells
      have hB4 : Below wr.heap.size wr u4 := ((Stir.of_below (F := fun _ => False) hB3).trans hs4 (fun i hi => .inr (by omega))).below (fun _ f => f.elim) (Nat.le_refl _)
      have CT := taken_any rn od u4 (HG.out.below (hB.trans (hB4.mono hB.size)))
      have HT4 := Lib.hid (ht.later hB4)
      have HN4 := Lib.hid ha4
      have HB4 := Lib.hid (hB.trans (hB4.mono hB.size))
      have HFT := Lib.hid hft
      have HTK := Lib.hid htk
      have HON := Lib.hid on
      have HLT := Lib.hid hlt
      unfold zeroN NdeObj at hw3
      unfold zeroN at s1 s2 s3 s4
      unfold ndeV at CT
      simp only at hw3 s1 s2 s3 s4 CT
      clear hrow hrow3 hB3 z3 ha4 hs4 hB4 ht htk hft hB on ol od hca hbr
      go_wp2_with fail
      refine CT.mono ?_
      rintro e w5 ⟨hE, hB5⟩
      have n5 := HN4.out.later hB5
      have y0 := n5.cells.1
      have HB5 := Lib.hid (HB4.out.trans (hB5.mono HB4.out.size))
      rcases hE with ⟨hno, rfl⟩ | ⟨b, p, x, hx, rfl, hna, hlb, hlp⟩
      · have HNO2 := Lib.hid (HNO.out (.inl hno))
        clear CT hno hB5 n5
        go_wp2
        go_ret2
        exact ⟨.inr ⟨fun U hU => HNO2.out U hU.formed, rfl⟩, HB5.out⟩
      · by_cases hle : rn.num ≤ last
        · have HNO2 := Lib.hid (HNO.out (.inr hle))
          clear CT hx hna hlb hlp hB5 n5
          go_wp2
          go_ret2
          exact ⟨.inr ⟨fun U hU => HNO2.out U hU.formed, rfl⟩, HB5.out⟩
        · have h5 := HT4.out.later hB5
          have hxn : x.num = rn.num := hx.1
          have hnew : nodeAt T x.num = none := by
            cases hz : nodeAt T x.num with
            | none => rfl
            | some z =>
              have := HTK.out.num z (at_mem hz).1
              have := (at_mem hz).2
              omega
          have hlast : ∀ z ∈ T, z.num < x.num := fun z hz => by have := HTK.out.num z hz; omega
          have S5 : Stir (fun _ => False) w5 w5.drew := (Stir.refl _ w5).drew
          have h5d := h5.stay S5 (fun _ _ f => f)
          have hT60 : T.length < 60 := by have := H60.out; have := HLT.out; omega
          obtain ⟨w6, hrun, hm6, ht6⟩ := h5d.map.store lawI Tryz.underlying51 (by unfold maxLen; omega) (keyI HON.out) (val := .pointer (some ⟨b, 0, none⟩)) (d := .lit (.int .i64 b)) (ps := []) rfl
          rw [← hxn] at hm6
          have h6 := h5d.put hnew (hna.stay S5 (fun f => f) (fun _ _ f => f)) (fun g hg f => by have := hlp g hg; have := HT4.out.lt f; omega) hm6 ht6
          have S6 : Stir (· = w.heap.size) w5 w6 := (S5.weaken (G := (· = w.heap.size)) (fun _ f => f.elim)).turned (.inl rfl) ht6
          have HA6 := Lib.hid (show FromAt w w6 w1.heap.size w.heap.size l (T.length + 1) rn.num from ⟨_, _, _, _, h6, by rw [putN_last hlast]; simp, by rw [putN_last hlast, ← hxn]; exact HMORE.out x hx (by omega), (fun k hk => by
            rcases foot_put hk with h | h | h
            · exact HFT.out k h
            · have := HB4.out.size; omega
            · have := hlp k h; have := HB4.out.size; omega), ((Stir.of_below (F := fun _ => False) HB5.out).trans S6 (fun i hi => .inr (by omega))).below (fun _ f => f.elim) (Nat.le_refl _)⟩)
          have g0 : w6.cell? ⟨wr.heap.size, 0, none⟩ = some (.int .i64 rn.num) := (n5.keep S6 (by have := HA.out; obtain ⟨_, _, _, _, h, _⟩ := this; have := h.lt (.inr (.inl rfl)); omega)).cells.1
          have c0 := TObj.c0 h5.obj
          have c0d := TObj.c0 h5d.obj
          have y0d := (n5.keep S5 (fun f => f)).cells.1
          clear CT hx hna hlb hlp hB5 n5 h5 h5d hxn hnew hlast S5 hT60 hm6 ht6 h6 S6
          go_wp2
          go_region
          go_wp2
          go_roundw
          case rel => exact ⟨T.length + 1, rn.num, by have := HLT.out; omega, by go_num, rfl, HA6⟩
          case measure => simp [intOf]; have := HLT.out; omega
    · have hji : ¬ (j : Int) < (l.length : Int) := by omega
      have hjl : j = l.length := by omega
      obtain ⟨P, G, T, D, ht, hlen, htk, hft, hB⟩ := HA.out
      have hlen2 : T.length = l.length := by omega
      have CN := named_any ht (htk.raw hlen2 (Nat.le_of_not_lt H60.out) HOK.out)
      have HT := Lib.hid ht
      have HTK := Lib.hid htk
      have HFT := Lib.hid hft
      have HB := Lib.hid hB
      have HL2 := Lib.hid hlen2
      clear ht hlen htk hft hB hlen2
      go_wp2_with fail
      refine CN.mono ?_
      rintro e w3 ⟨⟨b, rfl, hb⟩, hB3⟩
      cases b with
      | false =>
        have HNO := Lib.hid (show ∀ U, Good U → tolds U ≠ l from fun U hU e => by
          have := HTK.out.uniq HL2.out hU.formed e
          subst this
          have := hb.2 hU.formed
          cases this)
        have HB3 := Lib.hid (HB.out.trans (hB3.mono HB.out.size))
        clear CN hb hB3
        go_wp2
        go_ret2
        exact ⟨.inr ⟨HNO.out, rfl⟩, HB3.out⟩
      | true =>
        have CM := met_any (HT.out.later hB3) (hb.1 rfl)
        have HB3 := Lib.hid hB3
        clear CN hb hB3
        go_wp2_with fail
        refine CM.mono ?_
        rintro e w4 ⟨⟨b, rfl, hb⟩, hB4⟩
        have HB4 := Lib.hid (show Below w.heap.size w w4 from HB.out.trans ((HB3.out.trans (hB4.mono HB3.out.size)).mono HB.out.size))
        have HT4 := Lib.hid ((HT.out.later HB3.out).later hB4)
        cases b with
        | false =>
          have HNO := Lib.hid (show ∀ U, Good U → tolds U ≠ l from fun U hU e => by
            have := HTK.out.uniq HL2.out hU.formed e
            subst this
            have := hb.2 hU
            cases this)
          clear CM hb hB4
          go_wp2
          go_ret2
          exact ⟨.inr ⟨HNO.out, rfl⟩, HB4.out⟩
        | true =>
          have HGD := Lib.hid (hb.1 rfl)
          clear CM hb hB4
          go_wp2
          go_ret2
          exact ⟨.inl ⟨T, _, FootT w1.heap.size w.heap.size P G T, HGD.out, HTK.out.all HL2.out, rfl, ⟨_, _, _, _, HT4.out, fun _ => Iff.rfl, HFT.out⟩⟩, HB4.out⟩
end Go.Proofs.YtfokdmijkniomaaGreatDoor

