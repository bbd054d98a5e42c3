/-
  A tree's nodes, as others see them: Nodes, Get, List.
-/
import Derived.Test.YtfokdmijkniomaaGreatDoorFilTo
namespace Go.Proofs.YtfokdmijkniomaaGreatDoor
open Go.RowKit Go Go.Maps

def ndeC (r : Nde) : List Value := [.int .i64 r.num, .bool r.dir, .int .i64 r.links, .string r.data]
theorem infoNde : (Tryz.prog.info? 38).map (fun i => (i.zero, i.size, i.bytes)) = some (some (.agg #[.int .i64 0, .bool false, .int .i64 0, .string ⟨#[]⟩]), 4, 40) := by kernel_rfl
section
variable {w w' : World} {c m : Nat} {P : Int → Nat} {G : Int → Option Nat} {T : List Nod} {D : DataW Unit}
theorem told_at (h : TreeAt c m P G T D w) (hF : Formed T) {k : Int} {x : Nod} (hx : nodeAt T k = some x) :
    Calls Tryz.prog 39 #[.pointer (some ⟨P k, 0, none⟩)] w fun e w' => e = .returned (ndeV (told x)) ∧ Below w.heap.size w w' := by
  refine told_any (h.node k x hx) (hF.riseE (at_mem hx).1) ?_ (fun e he => hF.entOk (at_mem hx).1 he)
  cases hd : x.dir with
  | true => exact (hF.dir x (at_mem hx).1 hd).2.2.1
  | false => rw [(hF.file x (at_mem hx).1 hd).1]; simp
set_option maxRecDepth 100000 in
set_option maxHeartbeats 8000000 in
theorem nodes_any (h : TreeAt c m P G T D w) (hF : Formed T) :
    Calls Tryz.prog 9 #[.pointer (some ⟨c, 0, none⟩)] w fun e w' => ∃ v, e = .returned v ∧ w'.ownsRow w.heap.size 38 4 v T.length ((tolds T).flatMap ndeC) ∧ Below w.heap.size w w' := by
  have c0 := TObj.c0 h.obj
  have hlen := hF.len
  have CK := keysI_any (some m) w
  have CS := sortedI_any h (by omega)
  have HH := Lib.hid h
  have HF := Lib.hid hF
  have HLEN := Lib.hid hlen
  clear h hF hlen
  obtain ⟨i0, hi, hz0, hz1, hz2⟩ := info_parts infoNde
  go_enter Tryz.func9, Tryz.ntmps9
  go_wp2_with fail
  refine CK.mono ?_
  rintro e w3 ⟨rfl, rfl⟩
  go_wp2_with fail
  refine CS.mono ?_
  rintro e w4 ⟨v, rfl, hrow, hB4⟩
  obtain ⟨a, cap, rfl⟩ := WT.row_shape hrow
  have HRI := Lib.hid hrow
  have HB4 := Lib.hid hB4
  clear hrow hB4 CK CS c0
  go_wp2
  go_loopw [3, 13] (fun v i wr => ∃ j : Nat, j ≤ T.length ∧ i = .int .i64 j ∧ Hid (wr.ownsRow w4.heap.size 38 4 v j ((tolds (T.take j)).flatMap ndeC)) ∧ Hid (Below w4.heap.size w4 wr)) (fun _ i _ => T.length - (intOf i).toNat)
  case atStart => exact ⟨0, Nat.zero_le _, rfl, Lib.hid (World.ownsRow_nil _ _ _ _), Lib.hid (Below.refl _ _)⟩
  case round =>
    obtain ⟨j, hj, rfl, HRW, HB⟩ := hrel
    have hrow0 := HRW.out
    obtain ⟨av0, cv0, rfl⟩ := WT.row_shape hrow0
    clear hrow0
    by_cases hlt : j < T.length
    · have hji : (j : Int) < (T.length : Int) := by omega
      obtain ⟨br, rfl, hcj⟩ : ∃ br, a = some ⟨br, 0, none⟩ ∧ w4.cell? ⟨br, j, none⟩ = some (.int .i64 T[j].num) := by
        rcases HRI.out.2 with ⟨e, h0⟩ | ⟨g, cap', cur, e, _⟩
        · omega
        · simp only [Value.slice.injEq] at e
          obtain ⟨rfl, _, rfl⟩ := e
          refine ⟨g, rfl, ?_⟩
          have := HRI.out.cellAt (g := g) (cap := cap) j (by omega)
          rw [this]
          simp [intVals, hlt]
      have q0' : wr.cell? ⟨br, j, none⟩ = some (.int .i64 T[j].num) := (HB.out.cell (p := ⟨br, j, none⟩) (lt_of_cell hcj)).trans hcj
      have hx : nodeAt T T[j].num = some T[j] := HF.out.rise.at (List.getElem_mem _)
      have HTK := Lib.hid (List.take_succ_eq_append_getElem hlt)
      have hbr : Below w.heap.size w wr := HB4.out.trans (HB.out.mono HB4.out.size)
      have h5 := HH.out.later hbr
      have c0 := TObj.c0 h5.obj
      have hlk := h5.lookup_some (HF.out.intOk hx) hx
      have CT := told_at h5 HF.out hx
      have hsz := HB.out.size
      have hj60 : j ≤ 60 := by have := HLEN.out; omega
      clear hcj hbr h5 hx
      generalize T[j] = en at *
      unfold ndeV at CT
      obtain ⟨R, hR⟩ : ∃ R, told en = R := ⟨_, rfl⟩
      have HRT := Lib.hid hR
      rw [hR] at CT
      clear hR
      go_wp2_with fail
      refine CT.mono ?_
      rintro e w5 ⟨rfl, hB5⟩
      have hB45 : Below w4.heap.size w4 w5 := HB.out.trans (hB5.mono HB.out.size)
      have hrow : w5.ownsRow w4.heap.size 38 4 (.slice av0 j cv0) j ((tolds (T.take j)).flatMap ndeC) := WT.owns_later HRW.out hB5
      have hsz5 := hB45.size
      have HB45 := Lib.hid hB45
      clear hB5 CT c0 hlk q0' hsz hB45
      go_wp2_with (at_builtin; refine wpList_append_own _ rfl _ _ 32 rfl w4.heap.size 38 i0 (.agg #[.int .i64 0, .bool false, .int .i64 0, .string ⟨#[]⟩]) 4 40 Tryz.underlying32 hi hz0 hz1 hz2 rfl (by decide) _ _ _ rfl (hrow.alloc _) ⟨w5.heap.size, 0, none⟩ 1 1 [.int .i64 R.num, .bool R.dir, .int .i64 R.links, .string R.data] rfl rfl (WT.cells_new w5 [.int .i64 R.num, .bool R.dir, .int .i64 R.links, .string R.data] _) (by simp [Value.oneCell']) (by unfold maxLen; omega) (by omega) (by simp; omega) ?_; intro v' w6 hown' hgrow _; have hB6 : Below w4.heap.size w5 w6 := ((Below.refl _ w5).alloc hsz5 _).grown hgrow (by simp; omega) (fun j ej => (hrow.lt j ej).1); have HB6 := Lib.hid (HB45.out.trans hB6); have HO6 := Lib.hid hown'; obtain ⟨av2, cv2, rfl⟩ := WT.row_shape hown'; clear hown' hgrow hB6)
      go_roundw
      case rel => exact ⟨j + 1, by omega, by go_num, Lib.hid (by rw [HTK.out]; unfold tolds; rw [List.map_append, List.flatMap_append, List.map_singleton, List.flatMap_singleton, HRT.out]; exact HO6.out), HB6⟩
      case measure => simp [intOf]; omega
    · have hji : ¬ (j : Int) < (T.length : Int) := by omega
      have hjl : j = T.length := by omega
      subst hjl
      go_wp2
      go_ret
      have hrow := HRW.out
      rw [List.take_length] at hrow
      exact ⟨_, rfl, Joins.ownsRow_le hrow HB4.out.size, HB4.out.trans (HB.out.mono HB4.out.size)⟩
/-- what Get answers -/
noncomputable def getV (T : List Nod) (s : ByteArray) : Nde × Int := match findR T s with
  | .error e => (zeroN, e)
  | .ok k => match nodeAt T k with
    | none => (zeroN, 141)
    | some x => (told x, 0)
set_option maxRecDepth 100000 in
set_option maxHeartbeats 4000000 in
theorem get_any (h : TreeAt c m P G T D w) (hF : Formed T) {s : ByteArray} (hs : s.size ≤ 281474976710656) :
    Calls Tryz.prog 11 #[.pointer (some ⟨c, 0, none⟩), .string s] w fun e w' => e = .returned (.tuple #[ndeV (getV T s).1, .int .i64 (getV T s).2]) ∧ Below w.heap.size w w' := by
  obtain ⟨w1, hw1⟩ : ∃ w1, w.alloc (NdeObj zeroN) = w1 := ⟨_, rfl⟩
  have hB1 : Below w.heap.size w w1 := by rw [← hw1]; exact (Below.refl _ w).alloc (Nat.le_refl _) _
  have z1 : NdeAt zeroN w.heap.size w1 := by rw [← hw1]; exact .new _ _
  have h1 := h.later hB1
  have C := find_any h1 hF hs
  have HH := Lib.hid h1
  have HF := Lib.hid hF
  have HB1 := Lib.hid hB1
  have HZ1 := Lib.hid z1
  unfold zeroN NdeObj at hw1
  simp only at hw1
  clear h hF hB1 z1 h1
  unfold getV
  cases hf : findR T s with
  | error e =>
    have he := findR_err hf
    have he0 : (e != 0) = true := by simp; omega
    rw [hf] at C
    unfold walkRes at C
    simp only at C ⊢
    unfold ndeV zeroN
    simp only
    clear hf he
    go_enter Tryz.func11, Tryz.ntmps11
    go_wp2_with fail
    refine C.mono ?_
    rintro e w2 ⟨rfl, hB2⟩
    obtain ⟨u1, u2, u3, u4, ⟨e1, e2, e3, e4⟩, ⟨s1, s2, s3, s4⟩, ⟨f1, f2, f3, f4⟩, ha6, hs6⟩ := nde_store zeroN (HZ1.out.later hB2)
    have HB6 := Lib.hid (((Stir.of_below (F := fun i => i = w.heap.size) (HB1.out.trans (hB2.mono HB1.out.size))).trans hs6 (fun i hi => .inl hi)).below (B := w.heap.size) (fun i hi => by omega) (Nat.le_refl _))
    obtain ⟨t0, t1, t2, t3⟩ := ha6.cells
    unfold zeroN at s1 s2 s3 s4 e1 e2 e3 e4 t0 t1 t2 t3
    simp only at s1 s2 s3 s4 e1 e2 e3 e4 t0 t1 t2 t3
    clear ha6 hs6 hB2 C
    go_wp2
    refine bodyPost_ret ?_ rfl ⟨rfl, HB6.out⟩
    rw [results_cell_tmp rfl]
    go_simp
    try rfl
  | ok k =>
    obtain ⟨x, hx⟩ := findR_node HF.out hf
    rw [hf] at C
    unfold walkRes at C
    simp only at C ⊢
    rw [hx]
    simp only
    have HX := Lib.hid hx
    clear hf hx
    obtain ⟨R, hR⟩ : ∃ R, told x = R := ⟨_, rfl⟩
    have HRT := Lib.hid hR
    rw [hR]
    unfold ndeV
    clear hR
    go_enter Tryz.func11, Tryz.ntmps11
    go_wp2_with fail
    refine C.mono ?_
    rintro e w2 ⟨rfl, hB2⟩
    have h2 := HH.out.later hB2
    have CT := told_at h2 HF.out HX.out
    have HB2 := Lib.hid (HB1.out.trans (hB2.mono HB1.out.size))
    have HZ2 := Lib.hid (HZ1.out.later hB2)
    rw [HRT.out] at CT
    unfold ndeV at CT
    clear h2 hB2 C
    go_wp2_with fail
    refine CT.mono ?_
    rintro e w3 ⟨rfl, hB3⟩
    obtain ⟨u1, u2, u3, u4, ⟨e1, e2, e3, e4⟩, ⟨s1, s2, s3, s4⟩, ⟨f1, f2, f3, f4⟩, ha6, hs6⟩ := nde_store R (HZ2.out.later hB3)
    have HB6 := Lib.hid (((Stir.of_below (F := fun i => i = w.heap.size) (HB2.out.trans (hB3.mono HB2.out.size))).trans hs6 (fun i hi => .inl hi)).below (B := w.heap.size) (fun i hi => by omega) (Nat.le_refl _))
    obtain ⟨t0, t1, t2, t3⟩ := ha6.cells
    unfold zeroN at s1 s2 s3 s4
    simp only at s1 s2 s3 s4
    clear ha6 hs6 hB3 CT
    go_wp2
    refine bodyPost_ret ?_ rfl ⟨rfl, HB6.out⟩
    rw [results_cell_tmp rfl]
    go_simp
    try rfl

/-- what List answers -/
noncomputable def listV (T : List Nod) (s : ByteArray) : Except Int (List ByteArray) := match findR T s with
  | .error e => .error e
  | .ok k => match nodeAt T k with
    | none => .error 141
    | some x => if x.dir = true then .ok (x.names.map Ent.name) else .error 143
def ListE (w : World) (r : Except Int (List ByteArray)) (e : Ending) (w' : World) : Prop := match r with
  | .error k => e = .returned (.tuple #[.slice none 0 0, .int .i64 k])
  | .ok l => ∃ v, e = .returned (.tuple #[v, .int .i64 0]) ∧ w'.ownsRow w.heap.size 9 1 v l.length (strVals l)
set_option maxRecDepth 100000 in
set_option maxHeartbeats 4000000 in
theorem list_any (h : TreeAt c m P G T D w) (hF : Formed T) {s : ByteArray} (hs : s.size ≤ 281474976710656) :
    Calls Tryz.prog 15 #[.pointer (some ⟨c, 0, none⟩), .string s] w fun e w' => ListE w (listV T s) e w' ∧ Below w.heap.size w w' := by
  have C := find_any h hF hs
  have HH := Lib.hid h
  have HF := Lib.hid hF
  clear h hF
  unfold listV
  cases hf : findR T s with
  | error e =>
    have he := findR_err hf
    have he0 : (e != 0) = true := by simp; omega
    rw [hf] at C
    unfold walkRes at C
    simp only at C ⊢
    unfold ListE
    simp only
    clear hf he
    go_enter Tryz.func15, Tryz.ntmps15
    go_wp2_with fail
    refine C.mono ?_
    rintro e w2 ⟨rfl, hB2⟩
    go_wp2
    go_ret2
    exact ⟨rfl, hB2⟩
  | ok k =>
    obtain ⟨x, hx⟩ := findR_node HF.out hf
    rw [hf] at C
    unfold walkRes at C
    simp only at C ⊢
    rw [hx]
    simp only
    have HX := Lib.hid hx
    have CN := fun w1 (hB : Below w.heap.size w w1) => (HH.out.later hB).node k x hx
    cases hd : x.dir with
    | false =>
      simp only [Bool.false_eq_true, if_false]
      unfold ListE
      simp only
      clear hf hx
      go_enter Tryz.func15, Tryz.ntmps15
      go_wp2_with fail
      refine C.mono ?_
      rintro e w2 ⟨rfl, hB2⟩
      have d1 := NObj.c1 (CN w2 hB2).obj
      rw [hd] at d1
      clear CN hd
      go_wp2
      go_ret2
      exact ⟨rfl, hB2⟩
    | true =>
      simp only [if_true]
      unfold ListE
      simp only
      have hr := HF.out.riseE (at_mem hx).1
      have hl := (HF.out.dir x (at_mem hx).1 hd).2.2.1
      have HR := Lib.hid hr
      have HL := Lib.hid hl
      rw [List.length_map]
      clear hf hx hr hl
      go_enter Tryz.func15, Tryz.ntmps15
      go_wp2_with fail
      refine C.mono ?_
      rintro e w2 ⟨rfl, hB2⟩
      have hN := CN w2 hB2
      have d1 := NObj.c1 hN.obj
      rw [hd] at d1
      have hnm := hN.names
      rw [hd] at hnm
      obtain ⟨g, hg⟩ := hnm.isSome
      have d4 := NObj.c4 hN.obj
      rw [hg] at d4 hnm
      have CK := keysS_any (some g) w2
      have CS := sortedS_any hnm HR.out (by have := HL.out; omega)
      have HB2 := Lib.hid hB2
      clear CN hd hN hnm hB2 C
      go_wp2_with fail
      refine CK.mono ?_
      rintro e w3 ⟨rfl, rfl⟩
      go_wp2_with fail
      refine CS.mono ?_
      rintro e w4 ⟨v, rfl, hrow, hB4⟩
      have HRW := Lib.hid hrow
      have HB4 := Lib.hid hB4
      obtain ⟨a, cap, rfl⟩ := WT.row_shape hrow
      clear hrow hB4 CK CS
      go_wp2
      go_ret2
      exact ⟨⟨_, rfl, Joins.ownsRow_le HRW.out HB2.out.size⟩, HB2.out.trans (HB4.out.mono HB2.out.size)⟩
end
end Go.Proofs.YtfokdmijkniomaaGreatDoor

