/-
  FilSf / FilSg / FilSh / FilSi.
-/
import Derived.Test.YtfokdmijkniomaaGreatDoorS1
import Derived.Deep.CutRange
import Derived.Laws.AppendOwnNone
import Derived.Laws.Cover1
namespace Go.Proofs.YtfokdmijkniomaaGreatDoor
open Go.RowKit Go Go.Maps

theorem results_cell_tmp2 {fn : Func} {p u v : Tmp} {ty : TypeId} (h : fn.results = #[.cell p ty, .tmp u, .tmp v]) (tmps : Array Value) (P : Program) (w : World) :
    (results fn tmps).run P w =
      ((asAddr (tmps.getD p undef)).run P w).andThen fun a w₁ => ((loadVar ty a).run P w₁).andThen fun x w₂ => .ok (.tuple #[x, tmps.getD u undef, tmps.getD v undef]) w₂ := by
  simp only [results, h]
  simp [Sem.run_bind, Result.andThen]
/-- a path's names but the last -/
theorem texts_less {W : World} {v : Value} {l : List ByteArray} (h : TextsAt W v l) (hl : l ≠ []) : ∃ g off cap, v = .slice (some ⟨g, off, none⟩) l.length cap ∧ TextsAt W (.slice (some ⟨g, off, none⟩) (l.length - 1) cap) l.dropLast ∧ W.cell? ⟨g, off + (l.length - 1), none⟩ = some (.string (lastOf l)) := by
  obtain ⟨a, cap, rfl, hc⟩ := h
  obtain ⟨g, off, rfl, hc2⟩ := hc hl
  have hpos := List.length_pos_iff.2 hl
  refine ⟨g, off, cap, rfl, ⟨_, cap, by rw [List.length_dropLast], fun _ => ⟨g, off, rfl, fun j hj => ?_⟩⟩, ?_⟩
  · rw [List.length_dropLast] at hj
    rw [hc2 j (by omega), List.getElem_dropLast]
  · have := hc2 (l.length - 1) (by omega)
    rw [this]
    unfold lastOf
    rw [List.getLast?_eq_getElem?, List.getElem?_eq_getElem (by omega)]
    rfl
theorem NdeAt.lt' {r : Nde} {b : Nat} {w : World} (h : NdeAt r b w) : b < w.heap.size := lt_of_heap h.obj
section
variable {tb : Nat} {lv : Value} {T : List Nod} {w w' : World}
set_option maxRecDepth 100000 in
set_option maxHeartbeats 8000000 in
theorem rup_any (h : RTIs tb lv T w) (hF : Formed T) {s : ByteArray} (hs : s.size ≤ 281474976710656) {l : List ByteArray} (hp : IsPath s l) (hl : l ≠ []) {p : Int} (hw : walkE T 1 l.dropLast = .ok p) :
    Calls Tryz.prog 33 #[.pointer (some ⟨tb, 0, none⟩), .string s] w fun e w' => e = .returned (.tuple #[.int .i64 p, .string (lastOf l)]) ∧ Below w.heap.size w w' := by
  have CP := rpath2_any s hs w
  have HH := Lib.hid h
  have HF := Lib.hid hF
  have HP := Lib.hid hp
  have HL := Lib.hid hl
  have HW := Lib.hid hw
  clear h hF hp hl hs hw
  go_enter Tryz.func33, Tryz.ntmps33
  go_wp2_with fail
  refine CP.mono ?_
  rintro e w2 ⟨hE, hB2⟩
  rcases hE with ⟨l', v, hp', rfl, ht, hcap⟩ | ⟨hno, rfl⟩
  · obtain rfl := hp'.uniq HP.out
    obtain ⟨g, off, cap, rfl, hti, hlc⟩ := texts_less ht HL.out
    have hcap' := hcap _ _ _ rfl
    have hlen := (path_names hp').1
    obtain ⟨x, hx⟩ := HF.out.walk_node HW.out
    have CF := rfind_any (HH.out.later hB2) HF.out hti (by rw [List.length_dropLast]; omega)
    rw [show findE T l'.dropLast = .ok x by unfold findE; rw [HW.out]; simp only [hx]] at CF
    have hxp := (at_mem hx).2
    obtain ⟨⟨rn, rd, rl, rb⟩, hR⟩ : ∃ R, told x = R := ⟨_, rfl⟩
    have hrn : rn = p := by have := congrArg Nde.num hR; rw [← hxp]; exact this.symm
    subst hrn
    unfold findA at CF
    simp only [hR] at CF
    unfold ndeV at CF
    simp only at CF
    have hpos := List.length_pos_iff.2 HL.out
    obtain ⟨N, hN⟩ : ∃ N, l'.length - 1 = N := ⟨_, rfl⟩
    have hN1 : l'.length = N + 1 := by omega
    have hNc : N + 1 ≤ cap := by omega
    rw [hN] at CF hlc
    rw [hN1]
    have hN1z : ((N + 1 : Nat) : Int) - 1 = (N : Int) := by omega
    have hNb : (N : Int) ≤ 1000 := by omega
    obtain ⟨S, hS⟩ : ∃ S, lastOf l' = S := ⟨_, rfl⟩
    rw [hS] at hlc
    have HS := Lib.hid hS
    have HB2 := Lib.hid hB2
    clear CP hp' ht hcap hcap' hti hlen hx hxp hR hpos hN hN1 hS hB2
    go_wp2_with fail
    refine CF.mono ?_
    rintro e w3 ⟨rfl, hB3⟩
    obtain ⟨wA, x1, x2, x3, x4, hwA, ⟨k1, k2, k3, k4⟩, ⟨p1, p2, p3, p4⟩, ⟨r1, r2, r3, r4⟩, HN, hBB, hsz⟩ := nde_box ⟨rn, rd, rl, rb⟩ w3
    have HN := Lib.hid HN
    simp only at k1 k2 k3 k4
    have hB6 := hB3.trans (hBB.mono hB3.size)
    have q0 := (hB6.cell (p := ⟨g, off + N, none⟩) (lt_of_cell hlc)).trans hlc
    have HB6 := Lib.hid (HB2.out.trans (hB6.mono HB2.out.size))
    obtain ⟨c0, -, -, -⟩ := HN.out.cells
    simp only at c0
    have hN1n : (N : Int) < ((N + 1 : Nat) : Int) := by omega
    clear hB3 hBB hsz CF hB6 hlc
    go_wp2
    go_quiet (fail)
    go_wp2
    go_ret2
    exact ⟨by rw [HS.out]; rfl, below_drewN HB6.out _⟩
  · exact absurd HP.out (hno _)

/-- what room tells -/
def RRoomE (T : List Nod) : Except Int (Int × ByteArray) → Ending → Prop
  | .error k, e => e = .returned (.tuple #[ndeV zeroN, .string ⟨#[]⟩, .int .i64 k])
  | .ok (p, s), e => ∃ x, nodeAt T p = some x ∧ e = .returned (.tuple #[ndeV (told x), .string s, .int .i64 0])
theorem room_err {T : List Nod} {l : List ByteArray} {k : Int} (h : placeE T l = .error k) : RRoomE T (placeE T l) (.returned (.tuple #[.agg #[.int .i64 0, .bool false, .int .i64 0, .string ⟨#[]⟩], .string ⟨#[]⟩, .int .i64 k])) := by rw [h]; rfl
theorem room_ok {T : List Nod} {l : List ByteArray} {p : Int} {s : ByteArray} (h : placeE T l = .ok (p, s)) {x : Nod} (hx : nodeAt T p = some x) {rn rl : Int} {rd : Bool} {rb : ByteArray} (hR : told x = ⟨rn, rd, rl, rb⟩) :
    RRoomE T (placeE T l) (.returned (.tuple #[.agg #[.int .i64 rn, .bool rd, .int .i64 rl, .string rb], .string s, .int .i64 0])) := by
  rw [h]
  exact ⟨x, hx, by rw [hR]; rfl⟩
theorem findA_err {T : List Nod} {l : List ByteArray} {e : Int} (h : walkE T 1 l = .error e) : findA (findE T l) = (zeroN, e) ∧ e ≠ 0 := by
  have h2 : findE T l = .error e := by unfold findE; rw [h]
  rw [h2]
  exact ⟨rfl, by have := find_err h2; omega⟩
theorem findA_ok {T : List Nod} {l : List ByteArray} {k : Int} {x : Nod} (h : walkE T 1 l = .ok k) (hx : nodeAt T k = some x) : findA (findE T l) = (told x, 0) := by
  have h2 : findE T l = .ok x := by unfold findE; rw [h]; simp only [hx]
  rw [h2]; rfl
theorem place_nil {T : List Nod} : placeE T [] = .error 142 := rfl
theorem last_some {l : List ByteArray} (h : l ≠ []) : l.getLast? = some (lastOf l) := by
  unfold lastOf
  rw [List.getLast?_eq_some_getLast h]; rfl
theorem last_mem {l : List ByteArray} (h : l ≠ []) : lastOf l ∈ l := by
  rcases snoc_cases l with rfl | ⟨a, r, rfl⟩
  · exact absurd rfl h
  · simp [lastOf]
theorem walk_last {T : List Nod} {l : List ByteArray} (hl : l ≠ []) {p : Int} (hw : walkE T 1 l.dropLast = .ok p) : walkE T 1 l = stepE T p (lastOf l) := by
  have e : l = l.dropLast ++ [lastOf l] := by
    rcases snoc_cases l with rfl | ⟨a, r, rfl⟩
    · exact absurd rfl hl
    · simp [lastOf]
  conv => lhs; rw [e]
  rw [walk_to hw, walk_one]
theorem place_cases {T : List Nod} (hF : Formed T) {l : List ByteArray} (hl : l ≠ []) :
    (∃ e, e ≠ 0 ∧ findA (findE T l.dropLast) = (zeroN, e) ∧ placeE T l = .error e) ∨
    ∃ p x, nodeAt T p = some x ∧ findA (findE T l.dropLast) = (told x, 0) ∧
      ((x.dir = false ∧ placeE T l = .error 143) ∨ (x.dir = true ∧ (findA (findE T l)).2 = 0 ∧ placeE T l = .error 142) ∨
        (x.dir = true ∧ (findA (findE T l)).2 ≠ 0 ∧ 60 ≤ x.names.length ∧ placeE T l = .error 145) ∨ (x.dir = true ∧ (findA (findE T l)).2 ≠ 0 ∧ ¬ 60 ≤ x.names.length ∧ placeE T l = .ok (p, lastOf l))) := by
  unfold placeE
  rw [last_some hl]
  simp only
  cases hw : walkE T 1 l.dropLast with
  | error e =>
    obtain ⟨h1, h2⟩ := findA_err hw
    exact .inl ⟨e, h2, h1, rfl⟩
  | ok p =>
    obtain ⟨x, hx⟩ := hF.walk_node hw
    refine .inr ⟨p, x, hx, findA_ok hw hx, ?_⟩
    simp only [hx]
    have hst := walk_last hl hw
    cases hd : x.dir with
    | false => exact .inl ⟨rfl, by simp⟩
    | true =>
      have hs : stepE T p (lastOf l) = match lookE x.names (lastOf l) with | none => .error 141 | some j => .ok j := by
        unfold stepE
        rw [hx]
        simp only [hd, if_true]
        cases lookE x.names (lastOf l) <;> rfl
      rw [hs] at hst
      cases hk : lookE x.names (lastOf l) with
      | some j =>
        rw [hk] at hst
        obtain ⟨y, hy⟩ := (hF.kids x (at_mem hx).1 _ (look_mem hk)).2
        simp only at hst hy
        exact .inr (.inl ⟨rfl, by rw [findA_ok hst hy], by simp⟩)
      | none =>
        rw [hk] at hst
        simp only at hst
        have hne : (findA (findE T l)).2 ≠ 0 := by
          obtain ⟨h1, h2⟩ := findA_err hst
          rw [h1]; exact h2
        by_cases h60 : 60 ≤ x.names.length
        · exact .inr (.inr (.inl ⟨rfl, hne, h60, by simp [h60]⟩))
        · exact .inr (.inr (.inr ⟨rfl, hne, h60, by simp [h60]⟩))
set_option maxRecDepth 100000 in
set_option maxHeartbeats 16000000 in
theorem rroom_any (h : RTIs tb lv T w) (hF : Formed T) {s : ByteArray} (hs : s.size ≤ 281474976710656) {l : List ByteArray} (hp : IsPath s l) :
    Calls Tryz.prog 63 #[.pointer (some ⟨tb, 0, none⟩), .string s] w fun e w' => RRoomE T (placeE T l) e ∧ Below w.heap.size w w' := by
  obtain ⟨w1, hw1⟩ : ∃ w1, w.alloc (NdeObj zeroN) = w1 := ⟨_, rfl⟩
  have hB1 : Below w.heap.size w w1 := by rw [← hw1]; exact (Below.refl _ w).alloc (Nat.le_refl _) _
  have z1 : NdeAt zeroN w.heap.size w1 := by rw [← hw1]; exact .new _ _
  have CP := rpath2_any s hs w1
  have HH := Lib.hid h
  have HF := Lib.hid hF
  have HP := Lib.hid hp
  have HB1 := Lib.hid hB1
  have HZ1 := Lib.hid z1
  unfold NdeObj zeroN at hw1
  simp only at hw1
  clear h hF hB1 z1 hs hp
  go_enter Tryz.func63, Tryz.ntmps63
  go_wp2_with fail
  refine CP.mono ?_
  rintro e w2 ⟨hE, hB2⟩
  have HB2 := Lib.hid (HB1.out.trans (hB2.mono HB1.out.size))
  have HZ2 := Lib.hid (HZ1.out.later hB2)
  rcases hE with ⟨l', v, hp', rfl, ht, hcap⟩ | ⟨hno, rfl⟩
  · obtain rfl := hp'.uniq HP.out
    by_cases hl : l' = []
    · as_aux_lemma =>
      subst hl
      obtain ⟨aa, capa, rfl, hta⟩ := ht
      clear hB2 CP hp' hcap hta
      obtain ⟨v1, v2, v3, v4, ⟨g1, g2, g3, g4⟩, ⟨s1, s2, s3, s4⟩, ⟨f1, f2, f3, f4⟩, ⟨t0, t1, t2, t3⟩, HBF⟩ := nde_tell zeroN (b := w.heap.size) (Nat.le_refl _) HB2.out HZ2.out
      unfold zeroN at g1 g2 g3 g4 t0 t1 t2 t3
      simp only at g1 g2 g3 g4 t0 t1 t2 t3
      clear hw1
      go_wp2
      refine bodyPost_ret ?_ rfl ⟨room_err place_nil, HBF.out⟩
      rw [results_cell_tmp2 rfl]
      go_simp
      try rfl
    · have hlen := (path_names hp').1
      obtain ⟨g, off, cap, rfl, hti, hlc⟩ := texts_less ht hl
      have hcap' := hcap _ _ _ rfl
      have CF := rfind_any (HH.out.later HB2.out) HF.out hti (by rw [List.length_dropLast]; omega)
      have HT := Lib.hid ht
      have HPC := Lib.hid (place_cases HF.out hl)
      have hpos := List.length_pos_iff.2 hl
      have hpi : ¬ (l'.length : Int) = 0 := by omega
      obtain ⟨N, hN⟩ : ∃ N, l'.length - 1 = N := ⟨_, rfl⟩
      have hN1 : l'.length = N + 1 := by omega
      have hNc : N + 1 ≤ cap := by omega
      rw [hN] at CF hlc
      have HLN := Lib.hid hN1
      have hL8 : l'.length ≤ 1000 := by omega
      rw [hN1]
      have hN1z : ((N + 1 : Nat) : Int) - 1 = (N : Int) := by omega
      have hNb : (N : Int) ≤ 1000 := by omega
      have he1 : ((((N + 1 : Nat) : Int)) == 0) = false := by simp; omega
      have he2 : (((N : Int) + 1) == 0) = false := by simp; omega
      have HL8 := Lib.hid hL8
      obtain ⟨S, hS⟩ : ∃ S, lastOf l' = S := ⟨_, rfl⟩
      rw [hS] at hlc
      have HS := Lib.hid hS
      have HSN := Lib.hid (show 1 ≤ S.size from by rw [← hS]; exact (hp'.1 _ (last_mem hl)).1)
      obtain ⟨⟨⟨rn, rd, rl, rb⟩, E1⟩, hFA⟩ : ∃ A, findA (findE T l'.dropLast) = A := ⟨_, rfl⟩
      rw [hFA] at CF
      unfold ndeV at CF
      simp only at CF
      have HFA := Lib.hid hFA
      clear CP hp' ht hcap hcap' hti hlen hpos hN hN1 hS hB2 hFA hl hpi hL8
      go_wp2_with fail
      refine CF.mono ?_
      rintro e w3 ⟨rfl, hB3⟩
      obtain ⟨wA, x1, x2, x3, x4, hwA, ⟨k1, k2, k3, k4⟩, ⟨p1, p2, p3, p4⟩, ⟨r1, r2, r3, r4⟩, HN, hBB, hsz⟩ := nde_box ⟨rn, rd, rl, rb⟩ w3
      have HN := Lib.hid HN
      simp only at k1 k2 k3 k4
      have hB6 := hB3.trans (hBB.mono hB3.size)
      have q0 := (hB6.cell (p := ⟨g, off + N, none⟩) (lt_of_cell hlc)).trans hlc
      have HB6 := Lib.hid (HB2.out.trans (hB6.mono HB2.out.size))
      have HZ6 := Lib.hid (HZ2.out.later hB6)
      have HT6 := Lib.hid (HT.out.later hB6)
      have HWB := Lib.hid (show w.heap.size < w3.heap.size from Nat.lt_of_lt_of_le HZ2.out.lt' hB3.size)
      clear hB3 hBB hsz CF hB6 hlc
      rcases HPC.out with ⟨e, he, hf, hpl⟩ | ⟨p, x, hx, hf, hc⟩
      · as_aux_lemma =>
        rw [HFA.out] at hf
        cases hf
        have he0 : (E1 != 0) = true := by simp [he]
        have HPL := Lib.hid hpl
        clear he hpl
        obtain ⟨v1, v2, v3, v4, ⟨g1, g2, g3, g4⟩, ⟨s1, s2, s3, s4⟩, ⟨f1, f2, f3, f4⟩, ⟨t0, t1, t2, t3⟩, HBF⟩ := nde_tell zeroN (b := w.heap.size) (Nat.le_refl _) HB6.out HZ6.out
        unfold zeroN at g1 g2 g3 g4 t0 t1 t2 t3
        simp only at g1 g2 g3 g4 t0 t1 t2 t3
        clear hw1
        go_wp2
        refine bodyPost_ret ?_ rfl ⟨room_err HPL.out, HBF.out⟩
        rw [results_cell_tmp2 rfl]
        go_simp
        try rfl
      · rw [HFA.out] at hf
        have hE1 : E1 = 0 := congrArg Prod.snd hf
        have hRX : ⟨rn, rd, rl, rb⟩ = told x := congrArg Prod.fst hf
        subst hE1
        have hxd : x.dir = rd := (congrArg Nde.dir hRX).symm
        have HRX := Lib.hid hRX.symm
        have HXP := Lib.hid hx
        rw [hxd] at hc
        clear hf hRX
        rcases hc with ⟨rfl, hpl⟩ | ⟨rfl, hfl, hpl⟩ | ⟨rfl, hfl, h60, hpl⟩ | ⟨rfl, hfl, h60, hpl⟩
        · as_aux_lemma =>
          have HPL := Lib.hid hpl
          obtain ⟨-, c1, -, -⟩ := HN.out.cells
          simp only at c1
          clear hpl
          obtain ⟨v1, v2, v3, v4, ⟨g1, g2, g3, g4⟩, ⟨s1, s2, s3, s4⟩, ⟨f1, f2, f3, f4⟩, ⟨t0, t1, t2, t3⟩, HBF⟩ := nde_tell zeroN (b := w.heap.size) (Nat.le_refl _) HB6.out HZ6.out
          unfold zeroN at g1 g2 g3 g4 t0 t1 t2 t3
          simp only at g1 g2 g3 g4 t0 t1 t2 t3
          clear hw1
          go_wp2
          refine bodyPost_ret ?_ rfl ⟨room_err HPL.out, HBF.out⟩
          rw [results_cell_tmp2 rfl]
          go_simp
          try rfl
        · as_aux_lemma =>
          have HPL := Lib.hid hpl
          have CF2 := rfind_any (HH.out.later HB6.out) HF.out (by have := HT6.out; rw [HLN.out] at this; exact this) HL8.out
          obtain ⟨⟨⟨qn, qd, ql, qb⟩, E2⟩, hF2⟩ : ∃ A, findA (findE T l') = A := ⟨_, rfl⟩
          rw [hF2] at CF2 hfl
          simp only at hfl
          unfold ndeV at CF2
          simp only at CF2
          obtain ⟨-, c1, -, -⟩ := HN.out.cells
          simp only at c1
          subst hfl
          clear hpl hF2
          go_wp2_with fail
          refine CF2.mono ?_
          rintro e w8 ⟨rfl, hB8⟩
          have HB8 := Lib.hid (HB6.out.trans (hB8.mono HB6.out.size))
          have HZ8 := Lib.hid (HZ6.out.later hB8)
          clear CF2 hB8 c1
          obtain ⟨v1, v2, v3, v4, ⟨g1, g2, g3, g4⟩, ⟨s1, s2, s3, s4⟩, ⟨f1, f2, f3, f4⟩, ⟨t0, t1, t2, t3⟩, HBF⟩ := nde_tell zeroN (b := w.heap.size) (Nat.le_refl _) HB8.out HZ8.out
          unfold zeroN at g1 g2 g3 g4 t0 t1 t2 t3
          simp only at g1 g2 g3 g4 t0 t1 t2 t3
          clear hw1
          go_wp2
          refine bodyPost_ret ?_ rfl ⟨room_err HPL.out, HBF.out⟩
          rw [results_cell_tmp2 rfl]
          go_simp
          try rfl
        · as_aux_lemma =>
          have HPL := Lib.hid hpl
          have CF2 := rfind_any (HH.out.later HB6.out) HF.out (by have := HT6.out; rw [HLN.out] at this; exact this) HL8.out
          obtain ⟨⟨⟨qn, qd, ql, qb⟩, E2⟩, hF2⟩ : ∃ A, findA (findE T l') = A := ⟨_, rfl⟩
          rw [hF2] at CF2 hfl
          simp only at hfl
          unfold ndeV at CF2
          simp only at CF2
          obtain ⟨-, c1, -, -⟩ := HN.out.cells
          simp only at c1
          have he2 : (E2 == 0) = false := by simp [hfl]
          clear hpl hF2 hfl
          go_wp2_with fail
          refine CF2.mono ?_
          rintro e w8 ⟨rfl, hB8⟩
          have HB8 := Lib.hid (HB6.out.trans (hB8.mono HB6.out.size))
          have HZ8 := Lib.hid (HZ6.out.later hB8)
          have hdx : x.dir = true := by have := congrArg Nde.dir HRX.out; exact this
          have hxm := (at_mem HXP.out).1
          have CE := rentries_any (x := ⟨rn, true, rl, rb⟩) (l := x.names) (by have := HF.out.isL hxm hdx; rw [← HRX.out]; exact this) (by have := (NodOf.of HF.out hxm).2.2.2.1; rw [HRX.out] at this; show rb.size ≤ _; have h2 : rb.size ≤ 16384 := this; omega) w8
          unfold ndeV at CE
          simp only at CE
          obtain ⟨d0, d1, d2, d3⟩ := (HN.out.later hB8).cells
          simp only at d0 d1 d2 d3
          have h6 : ((x.names.length : Nat) : Int) ≥ 60 := by omega
          have h6' : (60 : Int) ≤ (x.names.length : Int) := by omega
          clear CF2 hB8 c1 h60 hdx hxm
          go_wp2_with fail
          refine CE.mono ?_
          rintro e w9 ⟨v9, rfl, hrow, hB9⟩
          obtain ⟨a9, cap9, rfl⟩ := WT.row_shape hrow
          have HB9 := Lib.hid (HB8.out.trans (hB9.mono HB8.out.size))
          have HZ9 := Lib.hid (HZ8.out.later hB9)
          clear CE hrow hB9 d0 d1 d2 d3
          obtain ⟨v1, v2, v3, v4, ⟨g1, g2, g3, g4⟩, ⟨s1, s2, s3, s4⟩, ⟨f1, f2, f3, f4⟩, ⟨t0, t1, t2, t3⟩, HBF⟩ := nde_tell zeroN (b := w.heap.size) (Nat.le_refl _) HB9.out HZ9.out
          unfold zeroN at g1 g2 g3 g4 t0 t1 t2 t3
          simp only at g1 g2 g3 g4 t0 t1 t2 t3
          clear hw1
          go_wp2
          refine bodyPost_ret ?_ rfl ⟨room_err HPL.out, HBF.out⟩
          rw [results_cell_tmp2 rfl]
          go_simp
          try rfl
        · as_aux_lemma =>
          have HPL := Lib.hid hpl
          have CF2 := rfind_any (HH.out.later HB6.out) HF.out (by have := HT6.out; rw [HLN.out] at this; exact this) HL8.out
          obtain ⟨⟨⟨qn, qd, ql, qb⟩, E2⟩, hF2⟩ : ∃ A, findA (findE T l') = A := ⟨_, rfl⟩
          rw [hF2] at CF2 hfl
          simp only at hfl
          unfold ndeV at CF2
          simp only at CF2
          obtain ⟨-, c1, -, -⟩ := HN.out.cells
          simp only at c1
          have he2 : (E2 == 0) = false := by simp [hfl]
          clear hpl hF2 hfl
          have hq0 := q0
          have hwN : IntKind.i64.wrap (N : Int) = (N : Int) := wrapI _ (by omega) (by omega)
          have hNn : ¬ ((N : Int) + 1 ≤ (N : Int)) := by omega
          go_wp2_with fail
          refine CF2.mono ?_
          rintro e w8 ⟨rfl, hB8⟩
          have HB8 := Lib.hid (HB6.out.trans (hB8.mono HB6.out.size))
          have HZ8 := Lib.hid (HZ6.out.later hB8)
          have hdx : x.dir = true := by have := congrArg Nde.dir HRX.out; exact this
          have hxm := (at_mem HXP.out).1
          have CE := rentries_any (x := ⟨rn, true, rl, rb⟩) (l := x.names) (by have := HF.out.isL hxm hdx; rw [← HRX.out]; exact this) (by have := (NodOf.of HF.out hxm).2.2.2.1; rw [HRX.out] at this; show rb.size ≤ _; have h2 : rb.size ≤ 16384 := this; omega) w8
          unfold ndeV at CE
          simp only at CE
          have HN8 := Lib.hid (HN.out.later hB8)
          obtain ⟨d0, d1, d2, d3⟩ := HN8.out.cells
          simp only at d0 d1 d2 d3
          have h6 : ¬ ((x.names.length : Nat) : Int) ≥ 60 := by omega
          have h6' : ¬ (60 : Int) ≤ (x.names.length : Int) := by omega
          have HQ8 := Lib.hid ((hB8.cell (p := ⟨g, off + N, none⟩) (lt_of_cell hq0)).trans hq0)
          clear CF2 hB8 c1 h60 hdx hxm hq0 q0
          go_wp2_with fail
          refine CE.mono ?_
          rintro e w9 ⟨v9, rfl, hrow, hB9⟩
          obtain ⟨a9, cap9, rfl⟩ := WT.row_shape hrow
          have HB9 := Lib.hid (HB8.out.trans (hB9.mono HB8.out.size))
          have HZ9 := Lib.hid (HZ8.out.later hB9)
          have HN9 := Lib.hid (HN8.out.later hB9)
          obtain ⟨c0, c1, c2, c3⟩ := HN9.out.cells
          simp only at c0 c1 c2 c3
          have q0 := (hB9.cell (p := ⟨g, off + N, none⟩) (lt_of_cell HQ8.out)).trans HQ8.out
          obtain ⟨v1, v2, v3, v4, ⟨g1, g2, g3, g4⟩, ⟨s1, s2, s3, s4⟩, ⟨f1, f2, f3, f4⟩, ha4, hs4⟩ := nde_store ⟨rn, true, rl, rb⟩ (show NdeAt zeroN w.heap.size w9.drew from ⟨HZ9.out.obj⟩)
          have HBF := Lib.hid (((Stir.of_below (F := fun i => i = w.heap.size) (HB9.out.trans ((Below.refl _ w9).drew.mono HB9.out.size))).trans hs4 (fun i hi => .inl hi)).below (B := w.heap.size) (fun i hi => by omega) (Nat.le_refl _))
          have y4 : v4.cell? ⟨g, off + N, none⟩ = some (.string S) := by
            have hne : g ≠ w.heap.size := fun e => by
              have hz := HZ9.out.obj
              unfold NdeObj zeroN at hz
              have hs := HSN.out
              rw [e] at q0
              simp only [World.cell?, hz] at q0
              rcases hk : off + N with _ | _ | _ | _ | k <;> rw [hk] at q0 <;> simp at q0
              rw [← q0] at hs
              exact absurd hs (by decide)
            rw [World.cell?_of_block (hs4.block g (lt_of_cell q0) hne)]
            exact q0
          obtain ⟨y0, y1, y2, y3⟩ := ((show NdeAt ⟨rn, true, rl, rb⟩ w3.heap.size w9.drew from ⟨HN9.out.obj⟩).keep hs4 (by have := HWB.out; omega)).cells
          obtain ⟨t0, t1, t2, t3⟩ := ha4.cells
          unfold zeroN at s1 s2 s3 s4
          simp only at s1 s2 s3 s4 g1 g2 g3 g4 y0 y1 y2 y3 t0 t1 t2 t3
          clear CE hrow hB9 d0 d1 d2 d3 ha4 hs4
          go_wp2_with fail
          refine wp_region_held_drew (S := fun w' => w'.cell? ⟨w3.heap.size, 0, none⟩ = some (.int .i64 rn) ∧ w'.cell? ⟨w3.heap.size, 1, none⟩ = some (.bool true) ∧ w'.cell? ⟨w3.heap.size, 2, none⟩ = some (.int .i64 rl) ∧ w'.cell? ⟨w3.heap.size, 3, none⟩ = some (.string rb) ∧ w'.cell? ⟨g, off + N, none⟩ = some (.string S)) (by kernel_rfl) ⟨c0, c1, c2, c3, q0⟩ (fun hHeld => ?_)
          refine tkH 52 (i := 0) (v := .agg #[.int .i64 rn, .bool true, .int .i64 rl, .string rb]) (h := ?_)
          simp only [Act.put, stA, st0, st1]
          refine tkH 53 (i := 1) (v := .slice (some ⟨g, off, none⟩) (N + 1) cap) (h := ?_)
          simp only [Act.put, stA, st0, st1]
          refine tkH 54 (i := 2) (v := .slice (some ⟨g, off, none⟩) (N + 1) cap) (h := ?_)
          simp only [Act.put, stA, st0, st1]
          refine tkH 55 (i := 3) (v := .int .i64 ((N : Int) + 1)) (h := ?_)
          simp only [Act.put, stA, st0, st1]
          refine tkH 56 (i := 4) (v := .int .i64 (N : Int)) (h := ?_)
          simp only [Act.put, stA, st0, st1]
          refine tkH 57 (i := 5) (v := .pointer (some ⟨g, off + N, none⟩)) (h := ?_)
          simp only [Act.put, stA, st0, st1]
          refine tkH 58 (i := 6) (v := .string S) (h := ?_)
          simp only [Act.put, stA, st0, st1]
          refine wpAnyH_ready (rs := [7]) (by kernel_rfl) (by simp) ?_
          refine AllReadyH.cons rfl (fun K hK => ?_) (AllReadyH.nil)
          go_simp
          refine hK.out _ _ ⟨y0, y1, y2, y3, y4⟩ (fun hHeld => ?_)
          clear hK K
          try simp only [Act.put, stA, st0, st1]
          refine tkH 5 (i := 8) (v := .string S) (h := ?_)
          simp only [Act.put, stA, st0, st1]
          refine tkH 6 (i := 9) (v := .int .i64 0) (h := ?_)
          simp only [Act.put, stA, st0, st1]
          refine wpAnyH_done (by kernel_rfl) ?_ _
          go_wp2
          refine bodyPost_ret ?_ rfl ⟨room_ok (HS.out ▸ HPL.out) HXP.out HRX.out, HBF.out⟩
          rw [results_cell_tmp2 rfl]
          go_simp
          try rfl
  · exact absurd HP.out (hno _)

end
end Go.Proofs.YtfokdmijkniomaaGreatDoor

namespace Go.Proofs.YtfokdmijkniomaaGreatDoor
open Go.RowKit Go Go.Maps

theorem deepL_take {g : Int → Nat} {l : List Ent} {t : Nat} (ht : t < l.length) : deepL g (l.take (t + 1)) = max (deepL g (l.take t)) (1 + g l[t].num) := by
  induction l generalizing t with
  | nil => simp at ht
  | cons x l ih =>
    cases t with
    | zero => simp [deepL]
    | succ t =>
      have := ih (t := t) (by simpa using ht)
      simp only [List.take_succ_cons, deepL, this, List.getElem_cons_succ]
      omega
theorem deepL_le2 {g : Int → Nat} {n : Nat} {l : List Ent} (h : ∀ e ∈ l, g e.num ≤ n) : deepL g l ≤ n + 1 := by
  induction l with
  | nil => exact Nat.zero_le _
  | cons x l ih =>
    rw [deepL]
    have h1 := h x (by simp)
    have h2 := ih fun e he => h e (List.mem_cons_of_mem _ he)
    omega
section
variable {tb : Nat} {lv : Value} {T : List Nod} {w w' : World}
set_option maxRecDepth 100000 in
set_option maxHeartbeats 16000000 in
theorem rdeep_step (h : RTIs tb lv T w) (hF : Formed T) {x : Nod} (hx : x ∈ T) (hd : x.dir = true) (g : Int → Nat) (hg : ∀ e ∈ x.names, g e.num ≤ 100)
    (hrec : ∀ e ∈ x.names, ∀ y, nodeAt T e.num = some y → ∀ w1, RTIs tb lv T w1 → Calls Tryz.prog 65 #[.pointer (some ⟨tb, 0, none⟩), ndeV (told y)] w1 fun e w' => e = .returned (.int .i64 (g y.num)) ∧ Below w1.heap.size w1 w') :
    Calls Tryz.prog 65 #[.pointer (some ⟨tb, 0, none⟩), ndeV (told x)] w fun e w' => e = .returned (.int .i64 (deepL g x.names)) ∧ Below w.heap.size w w' := by
  obtain ⟨w1, hw1⟩ : ∃ w1, w.alloc (NdeObj (told x)) = w1 := ⟨_, rfl⟩
  have hB1 : Below w.heap.size w w1 := by rw [← hw1]; exact (Below.refl _ w).alloc (Nat.le_refl _) _
  have z1 : NdeAt (told x) w.heap.size w1 := by rw [← hw1]; exact .new _ _
  have CE := rentries_any (x := told x) (l := x.names) (hF.isL hx hd) (by have := (NodOf.of hF hx).2.2.2.1; omega) w1
  have hxd : (told x).dir = true := hd
  obtain ⟨⟨xn, xd, xl, xb⟩, hX⟩ : ∃ X, told x = X := ⟨_, rfl⟩
  rw [hX] at hw1 z1 CE hxd ⊢
  simp only at hxd
  subst hxd
  obtain ⟨d0, d1, d2, d3⟩ := z1.cells
  simp only at d0 d1 d2 d3
  have hne : T ≠ [] := fun e => by rw [e] at hx; cases hx
  obtain ⟨b, off, cap, rfl, hb, hcell⟩ := lt_nde h.list hne
  have HC := Lib.hid hcell
  have HH := Lib.hid h
  have HF := Lib.hid hF
  have HG := Lib.hid hg
  have HREC := Lib.hid hrec
  have HB1 := Lib.hid hB1
  have HXM := Lib.hid hx
  have hn60 : x.names.length ≤ 60 := (hF.dir x hx hd).2.2.1
  have hT60 : T.length ≤ 60 := hF.len
  unfold NdeObj at hw1
  unfold ndeV at CE ⊢
  simp only at hw1 CE ⊢
  clear h hF hg hrec hB1 z1 hX hne hcell hb hx hd
  go_enter Tryz.func65, Tryz.ntmps65
  go_wp2_with fail
  refine CE.mono ?_
  rintro e w5 ⟨v5, rfl, hrow, hB5⟩
  have hls := WT.lst_of_owns (C := entC) (fun _ => rfl) (by decide) hrow
  obtain ⟨a5, cap5, rfl, hla⟩ := hls
  have HLA := Lib.hid (fun t (ht : t < x.names.length) => show ∃ b5 o5, a5 = some ⟨b5, o5, none⟩ ∧ ∀ W, Below w5.heap.size w5 W → W.cell? ⟨b5, o5 + t * 2 + 1, none⟩ = some (.int .i64 (x.names[t]'(by omega)).num) from by
    obtain ⟨b5, o5, rfl, hb5, hc5⟩ := hla (by intro e; rw [e] at ht; simp at ht)
    exact ⟨b5, o5, rfl, fun W hB => by rw [World.cell?_of_block (hB.block b5 hb5)]; exact hc5 t (by omega) 1 (by omega)⟩)
  have HB5 := Lib.hid (HB1.out.trans (hB5.mono HB1.out.size))
  clear CE hrow hB5 hla d0 d1 d2 d3
  go_wp2
  go_loopw [5, 7] (fun m i wr => ∃ t : Nat, t ≤ x.names.length ∧ m = .int .i64 ((deepL g (x.names.take t) : Nat) : Int) ∧ i = .int .i64 t ∧ Hid (Below w5.heap.size w5 wr)) (fun _ i _ => x.names.length - (intOf i).toNat)
  case atStart => exact ⟨0, Nat.zero_le _, rfl, rfl, Lib.hid (Below.refl _ _)⟩
  case round =>
    obtain ⟨t, ht, rfl, rfl, HBx⟩ := hrel
    by_cases htm : t < x.names.length
    · have hti : (t : Int) < (x.names.length : Int) := by omega
      obtain ⟨b5, o5, rfl, hc5⟩ := HLA.out t htm
      obtain ⟨en, hen⟩ : ∃ e, x.names[t] = e := ⟨_, rfl⟩
      have hem : en ∈ x.names := by rw [← hen]; exact List.getElem_mem _
      obtain ⟨y, hy⟩ := (HF.out.kids x HXM.out en hem).2
      have hyn := (at_mem hy).2
      obtain ⟨i, hyi, hil, hix⟩ := idx_at hy
      obtain ⟨⟨rn, rd, rl, rb⟩, hR⟩ : ∃ R, told y = R := ⟨_, rfl⟩
      have HALL := Lib.hid (fun (w' : World) (hB : Below w5.heap.size w5 w') => show w'.cell? ⟨tb, 0, none⟩ = some (.slice (some ⟨b, off, none⟩) T.length cap) ∧ w'.cell? ⟨b5, o5 + t * 2 + 1, none⟩ = some (.int .i64 en.num) ∧ w'.cell? ⟨b, off + i * 4, none⟩ = some (.int .i64 rn) ∧ w'.cell? ⟨b, off + i * 4 + 1, none⟩ = some (.bool rd) ∧ w'.cell? ⟨b, off + i * 4 + 2, none⟩ = some (.int .i64 rl) ∧ w'.cell? ⟨b, off + i * 4 + 3, none⟩ = some (.string rb) from by
        have hBw := HB5.out.trans (hB.mono HB5.out.size)
        obtain ⟨k0, k1, k2, k3⟩ := HC.out w' hBw i y hyi
        have e0 : y.num = rn := congrArg Nde.num hR
        have e1 : y.dir = rd := congrArg Nde.dir hR
        have e2 : y.links = rl := congrArg Nde.links hR
        have e3 : toldB y = rb := congrArg Nde.data hR
        rw [e0] at k0; rw [e1] at k1; rw [e2] at k2; rw [e3] at k3
        have h5 := hc5 w' hB
        rw [hen] at h5
        exact ⟨RTObj.c0 (HH.out.later hBw).obj, h5, k0, k1, k2, k3⟩)
      have HBD := Lib.hid (show Below w5.heap.size w5 wr.drew from HBx.out.trans ((Below.refl _ wr).drew.mono HBx.out.size))
      have CN := fun (W : World) (hB : Below w5.heap.size w5 W) => rnode_any (w := W) (HH.out.later (HB5.out.trans (hB.mono HB5.out.size))).obj (HH.out.later (HB5.out.trans (hB.mono HB5.out.size))).list (by rw [tolds_len]; omega) en.num
      have CD := fun (W : World) (hB : Below w5.heap.size w5 W) => HREC.out en hem y hy W (HH.out.later (HB5.out.trans (hB.mono HB5.out.size)))
      rw [hix] at CN
      rw [hR, hyn] at CD
      unfold ndeV at CD
      simp only at CD
      have hgn := HG.out en hem
      have HTKx := deepL_take (g := g) htm
      rw [hen] at HTKx
      obtain ⟨dn, hdn⟩ : ∃ d, g en.num = d := ⟨_, rfl⟩
      rw [hdn] at CD HTKx hgn
      obtain ⟨D0, hD0⟩ : ∃ d, deepL g (x.names.take t) = d := ⟨_, rfl⟩
      rw [hD0] at HTKx ⊢
      have hD0l : D0 ≤ 101 := by rw [← hD0]; exact deepL_le2 (fun e he => HG.out e (List.mem_of_mem_take he))
      have HTK := Lib.hid HTKx
      have HMX := Lib.hid (show max (D0 : Int) (1 + (dn : Int)) = ((max D0 (1 + dn) : Nat) : Int) from by omega)
      have hiT : (i : Int) < (T.length : Int) := by omega
      have hwd : IntKind.i64.wrap (1 + (dn : Int)) = 1 + (dn : Int) := wrapI _ (by omega) (by omega)
      have hwd2 : RowKit.wrap64 (1 + (dn : Int)) = 1 + (dn : Int) := w64_big (by omega) (by omega)
      have HTM := Lib.hid htm
      have HW2 := Lib.hid (show RowKit.wrap64 ((t : Int) + 1) = (t : Int) + 1 from w64_cnt (by omega) (by omega))
      clear hc5 hen hem hy hyn hyi hix hR hdn hD0 HTKx
      go_wp2_with fail
      refine wp_region_held_drew (S := fun w' => w'.cell? ⟨tb, 0, none⟩ = some (.slice (some ⟨b, off, none⟩) T.length cap) ∧ w'.cell? ⟨b5, o5 + t * 2 + 1, none⟩ = some (.int .i64 en.num) ∧ w'.cell? ⟨b, off + i * 4, none⟩ = some (.int .i64 rn) ∧ w'.cell? ⟨b, off + i * 4 + 1, none⟩ = some (.bool rd) ∧ w'.cell? ⟨b, off + i * 4 + 2, none⟩ = some (.int .i64 rl) ∧ w'.cell? ⟨b, off + i * 4 + 3, none⟩ = some (.string rb)) (by kernel_rfl) (HALL.out wr.drew HBD.out) (fun hHeld => ?_)
      refine tkH 19 (i := 0) (v := .pointer (some ⟨tb, 0, none⟩)) (h := ?_)
      simp only [Act.put, stA, st0, st1]
      refine tkH 20 (i := 1) (v := .pointer (some ⟨tb, 0, none⟩)) (h := ?_)
      simp only [Act.put, stA, st0, st1]
      refine tkH 21 (i := 2) (v := .pointer (some ⟨tb, 0, none⟩)) (h := ?_)
      simp only [Act.put, stA, st0, st1]
      refine tkH 22 (i := 3) (v := .pointer (some ⟨tb, 0, none⟩)) (h := ?_)
      simp only [Act.put, stA, st0, st1]
      refine tkH 23 (i := 4) (v := .slice (some ⟨b, off, none⟩) T.length cap) (h := ?_)
      simp only [Act.put, stA, st0, st1]
      refine tkH 24 (i := 5) (v := .pointer (some ⟨tb, 0, none⟩)) (h := ?_)
      simp only [Act.put, stA, st0, st1]
      refine tkH 25 (i := 6) (v := .slice (some ⟨b5, o5, none⟩) x.names.length cap5) (h := ?_)
      simp only [Act.put, stA, st0, st1]
      refine tkH 26 (i := 7) (v := .int .i64 ((t : Nat) : Int)) (h := ?_)
      simp only [Act.put, stA, st0, st1]
      refine tkH 27 (i := 8) (v := .pointer (some ⟨b5, o5 + t * 2, none⟩)) (h := ?_)
      simp only [Act.put, stA, st0, st1]
      refine tkH 28 (i := 9) (v := .pointer (some ⟨b5, o5 + t * 2 + 1, none⟩)) (h := ?_)
      simp only [Act.put, stA, st0, st1]
      refine tkH 29 (i := 10) (v := .int .i64 en.num) (h := ?_)
      simp only [Act.put, stA, st0, st1]
      refine wpAnyH_ready (rs := [11]) (by kernel_rfl) (by simp) ?_
      refine AllReadyH.cons rfl (fun K hK => ?_) (AllReadyH.nil)
      go_simp
      go_at_call 64
      refine (CN _ HBD.out).mono ?_
      rintro e wn ⟨rfl, hBn⟩
      have HBN := Lib.hid (HBD.out.trans (hBn.mono HBD.out.size))
      have fN := HALL.out wn HBN.out
      clear hBn
      go_wp2_with fail
      refine hK.out _ _ fN (fun hHeld => ?_)
      clear hK K
      try simp only [Act.put, stA, st0, st1]
      refine tkH 31 (i := 12) (v := .pointer (some ⟨b, off + i * 4, none⟩)) (h := ?_)
      simp only [Act.put, stA, st0, st1]
      refine tkH 32 (i := 13) (v := .agg #[.int .i64 rn, .bool rd, .int .i64 rl, .string rb]) (h := ?_)
      simp only [Act.put, stA, st0, st1]
      refine wpAnyH_ready (rs := [14]) (by kernel_rfl) (by simp) ?_
      refine AllReadyH.cons rfl (fun K hK => ?_) (AllReadyH.nil)
      go_simp
      go_at_call 65
      refine (CD _ HBN.out).mono ?_
      rintro e wd ⟨rfl, hBd⟩
      have HBE := Lib.hid (HBN.out.trans (hBd.mono HBN.out.size))
      have fD := HALL.out wd HBE.out
      clear hBd
      go_wp2_with fail
      refine hK.out _ _ fD (fun hHeld => ?_)
      clear hK K
      try simp only [Act.put, stA, st0, st1]
      refine tkH 34 (i := 15) (v := .int .i64 (1 + (dn : Int))) (h := ?_)
      simp only [Act.put, stA, st0, st1]
      refine tkH 8 (i := 16) (v := .int .i64 (1 + (dn : Int))) (h := ?_)
      simp only [Act.put, stA, st0, st1]
      refine wpAnyH_done (by kernel_rfl) ?_ _
      clear hHeld fN fD CN CD
      have hw2 := HW2.out
      have hmx := HMX.out
      go_wp2
      go_roundw
      case rel => exact ⟨t + 1, HTM.out, (by rw [HTK.out]), (by first | exact num_up hw2 | rfl), HBE⟩
      case measure => first | exact meas_v HTM.out hw2 rfl rfl | exact meas_u HTM.out rfl rfl
    · as_aux_lemma =>
      have hti : ¬ (t : Int) < (x.names.length : Int) := by omega
      have htk : x.names.take t = x.names := List.take_of_length_le (by omega)
      rw [htk]
      clear htk
      go_wp2
      go_ret
      exact ⟨rfl, HB5.out.trans (HBx.out.mono HB5.out.size)⟩
set_option maxRecDepth 100000 in
set_option maxHeartbeats 2000000 in
theorem rdeep_file {x : Nod} (hd : x.dir = false) :
    Calls Tryz.prog 65 #[.pointer (some ⟨tb, 0, none⟩), ndeV (told x)] w fun e w' => e = .returned (.int .i64 0) ∧ Below w.heap.size w w' := by
  obtain ⟨w1, hw1⟩ : ∃ w1, w.alloc (NdeObj (told x)) = w1 := ⟨_, rfl⟩
  have hB1 : Below w.heap.size w w1 := by rw [← hw1]; exact (Below.refl _ w).alloc (Nat.le_refl _) _
  have z1 : NdeAt (told x) w.heap.size w1 := by rw [← hw1]; exact .new _ _
  have hxd : (told x).dir = false := hd
  obtain ⟨⟨xn, xd, xl, xb⟩, hX⟩ : ∃ X, told x = X := ⟨_, rfl⟩
  rw [hX] at hw1 z1 hxd ⊢
  simp only at hxd
  subst hxd
  obtain ⟨d0, d1, d2, d3⟩ := z1.cells
  simp only at d0 d1 d2 d3
  unfold NdeObj at hw1
  unfold ndeV
  simp only at hw1 ⊢
  clear z1 hX hd
  go_enter Tryz.func65, Tryz.ntmps65
  go_wp2
  go_ret
  exact ⟨rfl, hB1⟩
theorem rdeep_any (hF : Formed T) : ∀ (f : Nat) {k : Int} {x : Nod}, nodeAt T k = some x → Fits T f k → f ≤ 99 → ∀ w, RTIs tb lv T w →
    Calls Tryz.prog 65 #[.pointer (some ⟨tb, 0, none⟩), ndeV (told x)] w fun e w' => e = .returned (.int .i64 (deepF T f k)) ∧ Below w.heap.size w w' := by
  intro f
  induction f with
  | zero =>
    intro k x hx hf _ w h
    cases hd : x.dir with
    | false => exact rdeep_file hd
    | true =>
      have hn : x.names = [] := by
        cases hn : x.names with
        | nil => rfl
        | cons e l =>
          have hs : stepE T k e.name = .ok e.num := step_ok.2 ⟨x, hx, hd, (hF.riseE (at_mem hx).1).look (by rw [hn]; simp)⟩
          have := hf [e.name] e.num (by rw [walk_one]; exact hs)
          simp at this
      have := rdeep_step h hF (at_mem hx).1 hd (fun _ => 0) (fun e he => by rw [hn] at he; cases he) (fun e he => by rw [hn] at he; cases he)
      rw [hn] at this
      exact this
  | succ f ih =>
    intro k x hx hf hfb w h
    cases hd : x.dir with
    | false =>
      have e2 : deepF T (f + 1) k = 0 := by rw [deepF, hx]; simp [hd]
      rw [e2]
      exact rdeep_file hd
    | true =>
      have st : ∀ e ∈ x.names, stepE T k e.name = .ok e.num := fun e he => step_ok.2 ⟨x, hx, hd, (hF.riseE (at_mem hx).1).look he⟩
      have e2 : deepF T (f + 1) k = deepL (deepF T f) x.names := by rw [deepF, hx]; simp [hd]
      rw [e2]
      refine rdeep_step h hF (at_mem hx).1 hd (deepF T f) (fun e he => ?_) (fun e he y hy w1 h1 => ?_)
      · have := deep_le hF.riseAll (hf.step (st e he))
        omega
      · rw [(at_mem hy).2]
        exact ih hy (hf.step (st e he)) (by omega) w1 h1

end
end Go.Proofs.YtfokdmijkniomaaGreatDoor

namespace Go.Proofs.YtfokdmijkniomaaGreatDoor
open Go.RowKit Go Go.Maps

theorem namF_step {s : ByteArray} {k : Int} {y : Ent} {acc l N : List Ent} {d : Bool} (h : acc ++ namF s k d (y :: l) = N) :
    (acc ++ ((if d = false ∧ ltB s y.name = true then [⟨s, k⟩] else []) ++ (if y.name = s then [] else [y]))) ++ namF s k (d || ltB s y.name) l = N := by
  rw [← h, namF]; simp
section
variable {tb : Nat} {lv : Value} {T : List Nod} {w w' : World}
set_option maxRecDepth 100000 in
set_option maxHeartbeats 16000000 in
theorem rnamed_any (h : RTIs tb lv T w) (hT : RawN T) {p : Int} {x : Nod} (hx : nodeAt T p = some x) (hd : x.dir = true) {s : ByteArray} {k : Int} {N : List Ent} (hN : namF s k (decide (k = 0)) x.names = N) (hM : May kE N) :
    Calls Tryz.prog 34 #[.pointer (some ⟨tb, 0, none⟩), .int .i64 p, .string s, .int .i64 k] w fun e w' => e = .returned (.tuple #[]) ∧ RLeft tb lv (putN { x with names := N } T) w w' := by
  have hxm := (at_mem hx).1
  have hne : T ≠ [] := fun e => by rw [e] at hxm; cases hxm
  obtain ⟨i, hyi, hil, hix⟩ := idx_at hx
  obtain ⟨hisl, hsz, hn61⟩ := hT.isL hxm hd
  obtain ⟨⟨rn, rd, rl, rb⟩, hR⟩ : ∃ R, told x = R := ⟨_, rfl⟩
  have hrd : rd = true := by have := congrArg Nde.dir hR; rw [← hd]; exact this.symm
  subst hrd
  rw [hR] at hisl hsz
  have HTN := Lib.hid (show told { x with names := N } = ⟨rn, true, rl, bs (laidL kE N)⟩ from by
    have e0 : x.num = rn := congrArg Nde.num hR
    have e2 : x.links = rl := congrArg Nde.links hR
    unfold told toldB
    simp only [hd, if_true, e0, e2])
  obtain ⟨b, off, cap, rfl, hb, hcell⟩ := lt_nde h.list hne
  have hc0 : ∀ w', Below w.heap.size w w' → w'.cell? ⟨tb, 0, none⟩ = some (.slice (some ⟨b, off, none⟩) T.length cap) := fun w' hB => RTObj.c0 (h.later hB).obj
  have HALL := Lib.hid (fun (w' : World) (hB : Below w.heap.size w w') => show w'.cell? ⟨tb, 0, none⟩ = some (.slice (some ⟨b, off, none⟩) T.length cap) ∧ w'.cell? ⟨b, off + i * 4, none⟩ = some (.int .i64 rn) ∧ w'.cell? ⟨b, off + i * 4 + 1, none⟩ = some (.bool true) ∧ w'.cell? ⟨b, off + i * 4 + 2, none⟩ = some (.int .i64 rl) ∧ w'.cell? ⟨b, off + i * 4 + 3, none⟩ = some (.string rb) from by
    obtain ⟨k0, k1, k2, k3⟩ := hcell w' hB i x hyi
    have e0 : x.num = rn := congrArg Nde.num hR
    have e2 : x.links = rl := congrArg Nde.links hR
    have e3 : toldB x = rb := congrArg Nde.data hR
    rw [e0] at k0; rw [hd] at k1; rw [e2] at k2; rw [e3] at k3
    exact ⟨hc0 w' hB, k0, k1, k2, k3⟩)
  have CN := fun (W : World) (hB : Below w.heap.size w W) => rnode_any (w := W) (h.later hB).obj (h.later hB).list (by rw [tolds_len]; have := hT.len; omega) p
  rw [hix] at CN
  have hiT : (i : Int) < (T.length : Int) := by omega
  have hT62 := hT.len
  have HH := Lib.hid h
  have HT := Lib.hid hT
  have HNE := Lib.hid hne
  have HISL := Lib.hid hisl
  have HSZ := Lib.hid hsz
  have HN := Lib.hid hN
  have HMAY := Lib.hid hM
  have HNL := Lib.hid (show N.length ≤ 4096 from hM.1)
  have HNO := Lib.hid (show ∀ y ∈ N, EntOk y from fun y hy => hM.ok hy)
  have HN61 := Lib.hid hn61
  clear h hT hx hN hM hxm hne hyi hix hisl hsz hR hcell hb hc0 hd
  obtain ⟨i0, hi, hz0, hz1, hz2⟩ := info_parts WT.infoEnt
  go_enter Tryz.func34, Tryz.ntmps34
  go_wp2_with fail
  go_cut [8] from 15 to 23 (fun q wx => ∃ ob, q = .pointer (some ⟨ob, 0, none⟩) ∧ Hid (NdeAt ⟨rn, true, rl, rb⟩ ob wx ∧ w.heap.size ≤ ob ∧ Below w.heap.size w wx))
  case first =>
    refine wp_region_held_drew (S := fun w' => w'.cell? ⟨tb, 0, none⟩ = some (.slice (some ⟨b, off, none⟩) T.length cap) ∧ w'.cell? ⟨b, off + i * 4, none⟩ = some (.int .i64 rn) ∧ w'.cell? ⟨b, off + i * 4 + 1, none⟩ = some (.bool true) ∧ w'.cell? ⟨b, off + i * 4 + 2, none⟩ = some (.int .i64 rl) ∧ w'.cell? ⟨b, off + i * 4 + 3, none⟩ = some (.string rb)) (by kernel_rfl) (HALL.out w.drew ((Below.refl _ w).drew)) (fun hHeld => ?_)
    have hBd : Below w.heap.size w w.drew := (Below.refl _ w).drew
    generalize w.drew = wd at hBd hHeld ⊢
    obtain ⟨wA, hwA⟩ : ∃ wA, wd.alloc (.cells #[.int .i64 0, .bool false, .int .i64 0, .string ⟨#[]⟩] 38) = wA := ⟨_, rfl⟩
    have hBA : Below w.heap.size w wA := by rw [← hwA]; exact hBd.alloc hBd.size _
    refine tkH 15 (i := 0) (v := .pointer (some ⟨tb, 0, none⟩)) (h := ?_)
    simp only [Act.put, stA, st0, st1]
    refine tkH 16 (i := 1) (v := .pointer (some ⟨tb, 0, none⟩)) (h := ?_)
    simp only [Act.put, stA, st0, st1]
    refine tkH 17 (i := 2) (v := .pointer (some ⟨tb, 0, none⟩)) (h := ?_)
    simp only [Act.put, stA, st0, st1]
    refine tkH 18 (i := 3) (v := .slice (some ⟨b, off, none⟩) T.length cap) (h := ?_)
    simp only [Act.put, stA, st0, st1]
    refine tkH 19 (i := 4) (v := .pointer (some ⟨tb, 0, none⟩)) (h := ?_)
    simp only [Act.put, stA, st0, st1]
    refine tkH 20 (i := 5) (v := .int .i64 p) (h := ?_)
    simp only [Act.put, stA, st0, st1]
    refine wpAnyH_ready (rs := [6, 9]) (by kernel_rfl) (by simp) ?_
    refine AllReadyH.cons rfl (fun K hK => ?_) (AllReadyH.cons rfl (fun K hK => ?_) (AllReadyH.nil))
    · go_simp
      go_at_call 64
      refine (CN wd hBd).mono ?_
      rintro e wn ⟨rfl, hBn'⟩
      have hBn := hBd.trans (hBn'.mono hBd.size)
      obtain ⟨wB, hwB⟩ : ∃ wB, wn.alloc (.cells #[.int .i64 0, .bool false, .int .i64 0, .string ⟨#[]⟩] 38) = wB := ⟨_, rfl⟩
      have hBB : Below wn.heap.size wn wB := by rw [← hwB]; exact (Below.refl _ wn).alloc (Nat.le_refl _) _
      go_wp2_with fail
      refine hK.out _ _ (HALL.out wn hBn) (fun hHeld => ?_)
      clear hK K
      try simp only [Act.put, stA, st0, st1]
      refine tkH 22 (i := 7) (v := .pointer (some ⟨b, off + i * 4, none⟩)) (h := ?_)
      simp only [Act.put, stA, st0, st1]
      refine tkH 23 (i := 8) (v := .agg #[.int .i64 rn, .bool true, .int .i64 rl, .string rb]) (h := ?_)
      simp only [Act.put, stA, st0, st1]
      refine wpAnyH_ready (rs := [9]) (by kernel_rfl) (by simp) ?_
      refine AllReadyH.cons rfl (fun K hK => ?_) (AllReadyH.nil)
      go_simp
      have hz : NdeAt zeroN wn.heap.size wB := by rw [← hwB]; exact .new _ _
      obtain ⟨u1, u2, u3, u4, ⟨g1, g2, g3, g4⟩, ⟨s1, s2, s3, s4⟩, ⟨f1, f2, f3, f4⟩, ha4, hs4⟩ := nde_store ⟨rn, true, rl, rb⟩ hz
      unfold zeroN at s1 s2 s3 s4
      simp only at s1 s2 s3 s4 g1 g2 g3 g4
      have hBu := ((Stir.of_below (F := fun i => i = wn.heap.size) (hBn.trans (hBB.mono hBn.size))).trans hs4 (fun i hi => .inl hi)).below (B := w.heap.size) (fun i hi => by have := hBn.size; omega) (Nat.le_refl _)
      have HFIN := Lib.hid (show NdeAt ⟨rn, true, rl, rb⟩ wn.heap.size u4 ∧ w.heap.size ≤ wn.heap.size ∧ Below w.heap.size w u4 from ⟨ha4, hBn.size, hBu⟩)
      refine hK.out _ _ (HALL.out wB (hBn.trans (hBB.mono hBn.size))) (fun hHeld => ?_)
      clear hK K
      try simp only [Act.put, stA, st0, st1]
      refine wpAnyH_ready (rs := [10]) (by kernel_rfl) (by simp) ?_
      refine AllReadyH.cons rfl (fun K hK => ?_) (AllReadyH.nil)
      go_simp
      refine hK.out _ _ (HALL.out u4 hBu) (fun hHeld => ?_)
      clear hK K
      try simp only [Act.put, stA, st0, st1]
      refine wpAnyH_done (by kernel_rfl) ?_ _
      clear hHeld
      go_wp2
      go_meet
      exact ⟨_, rfl, HFIN⟩
    · go_simp
      refine hK.out _ _ (HALL.out wA hBA) (fun hHeld => ?_)
      clear hK K
      try simp only [Act.put, stA, st0, st1]
      refine wpAnyH_ready (rs := [6]) (by kernel_rfl) (by simp) ?_
      refine AllReadyH.cons rfl (fun K hK => ?_) (AllReadyH.nil)
      go_simp
      go_at_call 64
      refine (CN wA hBA).mono ?_
      rintro e wn ⟨rfl, hBn'⟩
      have hBn := hBA.trans (hBn'.mono hBA.size)
      have hz : NdeAt zeroN wd.heap.size wn := (show NdeAt zeroN wd.heap.size wA by rw [← hwA]; exact .new _ _).later hBn'
      obtain ⟨u1, u2, u3, u4, ⟨g1, g2, g3, g4⟩, ⟨s1, s2, s3, s4⟩, ⟨f1, f2, f3, f4⟩, ha4, hs4⟩ := nde_store ⟨rn, true, rl, rb⟩ hz
      unfold zeroN at s1 s2 s3 s4
      simp only at s1 s2 s3 s4 g1 g2 g3 g4
      have hBu := ((Stir.of_below (F := fun i => i = wd.heap.size) hBn).trans hs4 (fun i hi => .inl hi)).below (B := w.heap.size) (fun i hi => by have := hBd.size; omega) (Nat.le_refl _)
      have HFIN := Lib.hid (show NdeAt ⟨rn, true, rl, rb⟩ wd.heap.size u4 ∧ w.heap.size ≤ wd.heap.size ∧ Below w.heap.size w u4 from ⟨ha4, hBd.size, hBu⟩)
      go_wp2_with fail
      refine hK.out _ _ (HALL.out wn hBn) (fun hHeld => ?_)
      clear hK K
      try simp only [Act.put, stA, st0, st1]
      refine tkH 22 (i := 7) (v := .pointer (some ⟨b, off + i * 4, none⟩)) (h := ?_)
      simp only [Act.put, stA, st0, st1]
      refine tkH 23 (i := 8) (v := .agg #[.int .i64 rn, .bool true, .int .i64 rl, .string rb]) (h := ?_)
      simp only [Act.put, stA, st0, st1]
      refine wpAnyH_ready (rs := [10]) (by kernel_rfl) (by simp) ?_
      refine AllReadyH.cons rfl (fun K hK => ?_) (AllReadyH.nil)
      go_simp
      refine hK.out _ _ (HALL.out u4 hBu) (fun hHeld => ?_)
      clear hK K
      try simp only [Act.put, stA, st0, st1]
      refine wpAnyH_done (by kernel_rfl) ?_ _
      clear hHeld
      go_wp2
      go_meet
      exact ⟨_, rfl, HFIN⟩
  case rest =>
    obtain ⟨ob, rfl, HO0⟩ := hcut
    obtain ⟨d0, d1, d2, d3⟩ := HO0.out.1.cells
    simp only at d0 d1 d2 d3
    have CE := fun W => rentries_any (x := ⟨rn, true, rl, rb⟩) (l := x.names) HISL.out (by have := HSZ.out; have h2 : rb.size ≤ 16384 := this; show rb.size ≤ _; omega) W
    unfold ndeV at CE
    simp only at CE
    clear CN
    go_wp2_with fail
    refine (CE _).mono ?_
    rintro e wb ⟨v5, rfl, hrow5, hB5⟩
    have hls := WT.lst_of_owns (C := entC) (fun _ => rfl) (by decide) hrow5
    obtain ⟨a5, cap5, rfl, hla⟩ := hls
    have HLA := Lib.hid (fun t (ht : t < x.names.length) => show ∃ b5 o5, a5 = some ⟨b5, o5, none⟩ ∧ ∀ W, Below wb.heap.size wb W → W.cell? ⟨b5, o5 + t * 2, none⟩ = some (.string (x.names[t]'(by omega)).name) ∧ W.cell? ⟨b5, o5 + t * 2 + 1, none⟩ = some (.int .i64 (x.names[t]'(by omega)).num) from by
      obtain ⟨b5, o5, rfl, hb5, hc5⟩ := hla (by intro e; rw [e] at ht; simp at ht)
      refine ⟨b5, o5, rfl, fun W hB => ⟨?_, ?_⟩⟩
      · rw [World.cell?_of_block (hB.block b5 hb5)]; exact hc5 t (by omega) 0 (by omega)
      · rw [World.cell?_of_block (hB.block b5 hb5)]; exact hc5 t (by omega) 1 (by omega))
    have HOB := Lib.hid (show NdeAt ⟨rn, true, rl, rb⟩ ob wb ∧ w.heap.size ≤ ob ∧ Below w.heap.size w wb from ⟨HO0.out.1.later hB5, HO0.out.2.1, HO0.out.2.2.trans (hB5.mono HO0.out.2.2.size)⟩)
    obtain ⟨w6, hw6⟩ : ∃ w6, wb.alloc (.cells #[] 88) = w6 := ⟨_, rfl⟩
    have HB6 := Lib.hid (show Below wb.heap.size wb w6 by rw [← hw6]; exact (Below.refl _ wb).alloc (Nat.le_refl _) _)
    have HR6 := Lib.hid (show w6.ownsRow wb.heap.size 88 2 (.slice (some ⟨wb.heap.size, 0, none⟩) 0 0) 0 [] from by
      rw [← hw6]
      exact ⟨rfl, .inr ⟨wb.heap.size, 0, #[], rfl, Nat.le_refl _, heap_alloc_new _ _, Nat.le_refl _, by unfold maxLen; omega, rfl, rfl⟩⟩)
    obtain ⟨k0, hk0⟩ : ∃ b, decide (k = 0) = b := ⟨_, rfl⟩
    have hkb : (k == 0) = k0 := by rw [← hk0]; by_cases h : k = 0 <;> simp [h]
    have HN0 := Lib.hid (show namF s k k0 x.names = N from by rw [← hk0]; exact HN.out)
    clear CE hrow5 hB5 hla d0 d1 d2 d3 hk0 HO0
    go_wp2
    clear hkb hw6
    go_loopw [10, 11, 12] (fun v d i wr => ∃ (j : Nat) (dd : Bool) (acc : List Ent), j ≤ x.names.length ∧ i = .int .i64 j ∧ d = .bool dd ∧ Hid (wr.ownsRow wb.heap.size 88 2 v acc.length (acc.flatMap entC)) ∧ Hid (acc ++ namF s k dd (x.names.drop j) = N ∧ acc.length ≤ 2 * j) ∧ Hid (Below wb.heap.size wb wr)) (fun _ _ i _ => x.names.length - (intOf i).toNat)
    case atStart => exact ⟨0, k0, [], Nat.zero_le _, rfl, rfl, HR6, Lib.hid ⟨by rw [List.drop_zero]; exact HN0.out, Nat.le_refl _⟩, HB6⟩
    case round =>
      obtain ⟨j, dd, acc, hj, rfl, rfl, HRW, HI, HBx⟩ := hrel
      obtain ⟨av, cv, rfl⟩ := WT.row_shape HRW.out
      have HAC := Lib.hid (show acc.length ≤ 2 * j ∧ j ≤ 61 from ⟨HI.out.2, by have := HN61.out; omega⟩)
      by_cases hlt : j < x.names.length
      · have hji : (j : Int) < (x.names.length : Int) := by omega
        obtain ⟨b5, o5, rfl, hc5⟩ := HLA.out j hlt
        obtain ⟨en, hen⟩ : ∃ e, x.names[j] = e := ⟨_, rfl⟩
        have HEN := Lib.hid (fun W (hB : Below wb.heap.size wb W) => show W.cell? ⟨b5, o5 + j * 2, none⟩ = some (.string en.name) ∧ W.cell? ⟨b5, o5 + j * 2 + 1, none⟩ = some (.int .i64 en.num) from by
          have := hc5 W hB
          rw [hen] at this
          exact this)
        have HST := Lib.hid (show (acc ++ ((if dd = false ∧ ltB s en.name = true then [⟨s, k⟩] else []) ++ (if en.name = s then [] else [en]))) ++ namF s k (dd || ltB s en.name) (x.names.drop (j + 1)) = N from by
          have h := HI.out.1
          rw [List.drop_eq_getElem_cons hlt, hen] at h
          exact namF_step h)
        obtain ⟨p0, p1⟩ := HEN.out wr HBx.out
        have HLT := Lib.hid hlt
        have HW2 := Lib.hid (show RowKit.wrap64 ((j : Int) + 1) = (j : Int) + 1 from w64_cnt (by omega) (by have := HN61.out; omega))
        clear hc5 hen hlt
        cases dd with
        | true =>
          by_cases he : en.name = s
          · as_aux_lemma =>
            have hst := HST.out
            rw [if_neg (fun h => Bool.noConfusion h.1), if_pos he, show (true || ltB s en.name) = true by simp] at hst
            have HFIN := Lib.hid (show acc ++ namF s k true (x.names.drop (j + 1)) = N from by simpa using hst)
            clear hst HST HI
            have b2 : (en.name.toList != s.toList) = false := by rw [he]; simp
            have b3 : (en.name.toList == s.toList) = true := by rw [he]; simp
            clear he
            have hw2 := HW2.out
            go_wp2
            go_roundw
            case rel => exact ⟨j + 1, true, acc, HLT.out, (by first | exact num_up hw2 | rfl), rfl, HRW, Lib.hid ⟨HFIN.out, by clear hw2; have := HAC.out; simp; omega⟩, HBx⟩
            case measure => first | exact meas_v HLT.out hw2 rfl rfl | exact meas_u HLT.out rfl rfl
          · as_aux_lemma =>
            have hst := HST.out
            rw [if_neg (fun h => Bool.noConfusion h.1), if_neg he, show (true || ltB s en.name) = true by simp] at hst
            have HFIN := Lib.hid (show (acc ++ [en]) ++ namF s k true (x.names.drop (j + 1)) = N from by simpa using hst)
            clear hst HST HI
            have b2 : (en.name.toList != s.toList) = true := (texts_ne he).2
            have b3 : (en.name.toList == s.toList) = false := (texts_ne he).1
            clear he
            have hrow := HRW.out
            have hlo := HBx.out.size
            have hac := HAC.out
            go_wp2_with (at_builtin; go_loud (refine wpList_append_own _ rfl _ _ 85 rfl wb.heap.size 88 i0 (.agg #[.string ⟨#[]⟩, .int .i64 0]) 2 24 Tryz.underlying85 hi hz0 hz1 hz2 rfl (by decide) _ _ _ rfl (hrow.alloc _) ⟨wr.heap.size, 0, none⟩ 1 1 [.string en.name, .int .i64 en.num] rfl rfl (WT.cells_new wr [.string en.name, .int .i64 en.num] _) (by simp [Value.oneCell']) (by unfold maxLen; omega) (by omega) (by simp; omega) ?_; intro v' w9 hown' hgrow _; have hG : Below wb.heap.size wr w9 := ((Below.refl _ wr).alloc hlo _).grown hgrow (by simp; omega) (fun j ej => (hrow.lt j ej).1); have HO := Lib.hid hown'; obtain ⟨av2, cv2, rfl⟩ := WT.row_shape hown'; clear hown' hgrow))
            have HB9 := Lib.hid (HBx.out.trans hG)
            have HOw9 := Lib.hid (show w9.ownsRow wb.heap.size 88 2 (.slice av2 (acc.length + 1) cv2) (acc ++ [en]).length ((acc ++ [en]).flatMap entC) from by rw [List.flatMap_append, List.flatMap_singleton]; simp only [List.length_append, List.length_singleton]; exact HO.out)
            clear hG HO hrow
            have hw2 := HW2.out
            go_roundw
            case rel => exact ⟨j + 1, true, (acc ++ [en]), HLT.out, (by first | exact num_up hw2 | rfl), rfl, HOw9, Lib.hid ⟨HFIN.out, by clear hw2; have := HAC.out; simp; omega⟩, HB9⟩
            case measure => first | exact meas_v HLT.out hw2 rfl rfl | exact meas_u HLT.out rfl rfl
        | false =>
          by_cases hlt : ltB s en.name = true
          · have he : ¬ en.name = s := fun e => by rw [e, ordB.irr] at hlt; cases hlt
            as_aux_lemma =>
              have hst := HST.out
              rw [if_pos ⟨rfl, hlt⟩, if_neg he, show (false || ltB s en.name) = true by simp [hlt]] at hst
              have HFIN := Lib.hid (show ((acc ++ [(⟨s, k⟩ : Ent)]) ++ [en]) ++ namF s k true (x.names.drop (j + 1)) = N from by simpa using hst)
              clear hst HST HI
              have b1 : Op.bytesLess en.name.toList s.toList = false := ordB.asymm hlt
              have b2 : (en.name.toList != s.toList) = true := (texts_ne he).2
              have b3 : (en.name.toList == s.toList) = false := (texts_ne he).1
              clear he hlt
              have hrow := HRW.out
              have hlo := HBx.out.size
              have hac := HAC.out
              go_upto_region 10 with (at_builtin; go_loud (refine wpList_append_own _ rfl _ _ 85 rfl wb.heap.size 88 i0 (.agg #[.string ⟨#[]⟩, .int .i64 0]) 2 24 Tryz.underlying85 hi hz0 hz1 hz2 rfl (by decide) _ _ _ rfl (hrow.alloc _) ⟨wr.heap.size, 0, none⟩ 1 1 [.string s, .int .i64 k] rfl rfl (WT.cells_new wr [.string s, .int .i64 k] _) (by simp [Value.oneCell']) (by unfold maxLen; omega) (by omega) (by simp; omega) ?_; intro v' w8 hown' hgrow _; have hG : Below wb.heap.size wr w8 := ((Below.refl _ wr).alloc hlo _).grown hgrow (by simp; omega) (fun j ej => (hrow.lt j ej).1); have HO := Lib.hid hown'; obtain ⟨av2, cv2, rfl⟩ := WT.row_shape hown'; clear hown' hgrow))
              have HB8 := Lib.hid (HBx.out.trans hG)
              have HOw8 := Lib.hid (show w8.ownsRow wb.heap.size 88 2 (.slice av2 (acc.length + 1) cv2) (acc ++ [(⟨s, k⟩ : Ent)]).length ((acc ++ [(⟨s, k⟩ : Ent)]).flatMap entC) from by rw [List.flatMap_append, List.flatMap_singleton]; simp only [List.length_append, List.length_singleton]; exact HO.out)
              clear hG HO hrow
              obtain ⟨p0, p1⟩ := HEN.out w8 HB8.out
              have hrow := HOw8.out
              have hlo := HB8.out.size
              have hac := HAC.out
              obtain ⟨av1, hav1⟩ : ∃ x, av2 = x := ⟨_, rfl⟩
              obtain ⟨cv1, hcv1⟩ : ∃ x, cv2 = x := ⟨_, rfl⟩
              rw [hav1, hcv1] at hrow ⊢
              rw [List.length_append, List.length_singleton] at hrow
              clear hav1 hcv1
              go_wp2_with (at_builtin; go_loud (refine wpList_append_own _ rfl _ _ 85 rfl wb.heap.size 88 i0 (.agg #[.string ⟨#[]⟩, .int .i64 0]) 2 24 Tryz.underlying85 hi hz0 hz1 hz2 rfl (by decide) _ _ _ rfl (hrow.alloc _) ⟨w8.heap.size, 0, none⟩ 1 1 [.string en.name, .int .i64 en.num] rfl rfl (WT.cells_new w8 [.string en.name, .int .i64 en.num] _) (by simp [Value.oneCell']) (by unfold maxLen; omega) (by omega) (by simp; omega) ?_; intro v' w9 hown' hgrow _; have hG : Below wb.heap.size w8 w9 := ((Below.refl _ w8).alloc hlo _).grown hgrow (by simp; omega) (fun j ej => (hrow.lt j ej).1); have HO := Lib.hid hown'; obtain ⟨av2, cv2, rfl⟩ := WT.row_shape hown'; clear hown' hgrow))
              have HB9 := Lib.hid (HB8.out.trans hG)
              have HOw9 := Lib.hid (show w9.ownsRow wb.heap.size 88 2 (.slice av2 ((acc.length + 1) + 1) cv2) ((acc ++ [(⟨s, k⟩ : Ent)]) ++ [en]).length (((acc ++ [(⟨s, k⟩ : Ent)]) ++ [en]).flatMap entC) from by rw [List.flatMap_append, List.flatMap_singleton]; simp only [List.length_append, List.length_singleton]; exact HO.out)
              clear hG HO hrow
              have hw2 := HW2.out
              go_roundw
              case rel => exact ⟨j + 1, true, ((acc ++ [(⟨s, k⟩ : Ent)]) ++ [en]), HLT.out, (by first | exact num_up hw2 | rfl), rfl, HOw9, Lib.hid ⟨HFIN.out, by clear hw2; have := HAC.out; simp; omega⟩, HB9⟩
              case measure => first | exact meas_v HLT.out hw2 rfl rfl | exact meas_u HLT.out rfl rfl
          · by_cases he : en.name = s
            · as_aux_lemma =>
              have hst := HST.out
              rw [if_neg (fun h => hlt h.2), if_pos he, show (false || ltB s en.name) = false by simp [hlt]] at hst
              have HFIN := Lib.hid (show acc ++ namF s k false (x.names.drop (j + 1)) = N from by simpa using hst)
              clear hst HST HI
              have b1 : Op.bytesLess en.name.toList s.toList = false := by rw [he]; exact ordB.irr s
              have b2 : (en.name.toList != s.toList) = false := by rw [he]; simp
              have b3 : (en.name.toList == s.toList) = true := by rw [he]; simp
              clear he hlt
              have hw2 := HW2.out
              go_wp2
              go_roundw
              case rel => exact ⟨j + 1, false, acc, HLT.out, (by first | exact num_up hw2 | rfl), rfl, HRW, Lib.hid ⟨HFIN.out, by clear hw2; have := HAC.out; simp; omega⟩, HBx⟩
              case measure => first | exact meas_v HLT.out hw2 rfl rfl | exact meas_u HLT.out rfl rfl
            · as_aux_lemma =>
              have hst := HST.out
              rw [if_neg (fun h => hlt h.2), if_neg he, show (false || ltB s en.name) = false by simp [hlt]] at hst
              have HFIN := Lib.hid (show (acc ++ [en]) ++ namF s k false (x.names.drop (j + 1)) = N from by simpa using hst)
              clear hst HST HI
              have b1 : Op.bytesLess en.name.toList s.toList = true := ((ordB.tri en.name s).resolve_right (fun h => h.elim he hlt))
              have b2 : (en.name.toList != s.toList) = true := (texts_ne he).2
              have b3 : (en.name.toList == s.toList) = false := (texts_ne he).1
              clear he hlt
              have hrow := HRW.out
              have hlo := HBx.out.size
              have hac := HAC.out
              go_wp2_with (at_builtin; go_loud (refine wpList_append_own _ rfl _ _ 85 rfl wb.heap.size 88 i0 (.agg #[.string ⟨#[]⟩, .int .i64 0]) 2 24 Tryz.underlying85 hi hz0 hz1 hz2 rfl (by decide) _ _ _ rfl (hrow.alloc _) ⟨wr.heap.size, 0, none⟩ 1 1 [.string en.name, .int .i64 en.num] rfl rfl (WT.cells_new wr [.string en.name, .int .i64 en.num] _) (by simp [Value.oneCell']) (by unfold maxLen; omega) (by omega) (by simp; omega) ?_; intro v' w9 hown' hgrow _; have hG : Below wb.heap.size wr w9 := ((Below.refl _ wr).alloc hlo _).grown hgrow (by simp; omega) (fun j ej => (hrow.lt j ej).1); have HO := Lib.hid hown'; obtain ⟨av2, cv2, rfl⟩ := WT.row_shape hown'; clear hown' hgrow))
              have HB9 := Lib.hid (HBx.out.trans hG)
              have HOw9 := Lib.hid (show w9.ownsRow wb.heap.size 88 2 (.slice av2 (acc.length + 1) cv2) (acc ++ [en]).length ((acc ++ [en]).flatMap entC) from by rw [List.flatMap_append, List.flatMap_singleton]; simp only [List.length_append, List.length_singleton]; exact HO.out)
              clear hG HO hrow
              have hw2 := HW2.out
              go_roundw
              case rel => exact ⟨j + 1, false, (acc ++ [en]), HLT.out, (by first | exact num_up hw2 | rfl), rfl, HOw9, Lib.hid ⟨HFIN.out, by clear hw2; have := HAC.out; simp; omega⟩, HB9⟩
              case measure => first | exact meas_v HLT.out hw2 rfl rfl | exact meas_u HLT.out rfl rfl
      · have hji : ¬ (j : Int) < (x.names.length : Int) := by omega
        have HE := Lib.hid (show acc ++ namF s k dd [] = N from by
          have h := HI.out.1
          rw [List.drop_of_length_le (by omega)] at h
          exact h)
        clear HI
        cases dd with
        | true => as_aux_lemma =>
          have hfin : wr.ownsRow wb.heap.size 88 2 (.slice av acc.length cv) N.length (N.flatMap entC) := by
            have e : acc = N := by rw [← HE.out, namF, if_pos rfl, List.append_nil]
            rw [← e]; exact HRW.out
          have CE := WT.entRLay_any _ N (by have := HNL.out; omega) (fun y hy => by have := (HNO.out y hy).1.2.1; omega) wr (WT.lst_of_owns (C := entC) (fun _ => rfl) (by decide) hfin)
          rw [WT.layV_yes HMAY.out] at CE
          clear hfin
          go_wp2_with fail
          refine CE.mono ?_
          rintro e w11 ⟨rfl, hB11⟩
          have HB11 := Lib.hid ((HBx.out.trans (hB11.mono HBx.out.size)))
          have h11 := HOB.out.1.later HB11.out
          have f3 := h11.fr 3
          have c3 := h11.cells.2.2.2
          simp only at c3
          obtain ⟨w12, hw12⟩ : ∃ w12, w11.setCell ⟨ob, 3, none⟩ (.string (bs (laidL kE N))) = w12 := ⟨_, rfl⟩
          have n12 : NdeAt (told { x with names := N }) ob w12 := ⟨by rw [← hw12, heap_set h11.obj, HTN.out]; rfl⟩
          have S12 : Stir (fun i => i = ob) w11 w12 := by rw [← hw12]; exact (Stir.refl (fun i => i = ob) w11).set (.inl rfl) _
          have hB12 : Below w.heap.size w w12 := ((Stir.of_below (F := fun i => i = ob) (HOB.out.2.2.trans (HB11.out.mono HOB.out.2.2.size))).trans S12 (fun i hi => .inl hi)).below (B := w.heap.size) (fun i hi => by have := HOB.out.2.1; omega) (Nat.le_refl _)
          have CP := rput_any (HH.out.later hB12) HT.out.rise (by have := HT.out.len; omega) HNE.out { x with names := N }
          obtain ⟨y0, y1, y2, y3⟩ := n12.cells
          have HB12 := Lib.hid hB12
          obtain ⟨⟨mn, md, ml, mb⟩, hM⟩ : ∃ M, told { x with names := N } = M := ⟨_, rfl⟩
          rw [hM] at CP y0 y1 y2 y3
          unfold ndeV at CP
          simp only at CP y0 y1 y2 y3
          clear CE hB11 h11 n12 S12 hB12 hM
          go_wp2_with fail
          refine CP.mono ?_
          rintro e w13 ⟨rfl, h13⟩
          have HFIN := Lib.hid (h13.start HB12.out)
          clear CP h13
          go_wp2
          go_end0
          exact ⟨rfl, HFIN.out⟩
        | false => as_aux_lemma =>
          have hrow := HRW.out
          have hlo := HBx.out.size
          have hac := HAC.out
          go_upto_region 14 with (at_builtin; go_loud (refine wpList_append_own _ rfl _ _ 85 rfl wb.heap.size 88 i0 (.agg #[.string ⟨#[]⟩, .int .i64 0]) 2 24 Tryz.underlying85 hi hz0 hz1 hz2 rfl (by decide) _ _ _ rfl (hrow.alloc _) ⟨wr.heap.size, 0, none⟩ 1 1 [.string s, .int .i64 k] rfl rfl (WT.cells_new wr [.string s, .int .i64 k] _) (by simp [Value.oneCell']) (by unfold maxLen; omega) (by omega) (by simp; omega) ?_; intro v' w8 hown' hgrow _; have hG : Below wb.heap.size wr w8 := ((Below.refl _ wr).alloc hlo _).grown hgrow (by simp; omega) (fun j ej => (hrow.lt j ej).1); have HO := Lib.hid hown'; obtain ⟨av2, cv2, rfl⟩ := WT.row_shape hown'; clear hown' hgrow))
          have HB8 := Lib.hid (HBx.out.trans hG)
          have hfin : w8.ownsRow wb.heap.size 88 2 (.slice av2 (acc.length + 1) cv2) N.length (N.flatMap entC) := by
            have e : acc ++ [(⟨s, k⟩ : Ent)] = N := by rw [← HE.out, namF, if_neg (by simp)]
            rw [← e, List.flatMap_append, List.flatMap_singleton, List.length_append, List.length_singleton]
            exact HO.out
          clear hG HO hrow
          have CE := WT.entRLay_any _ N (by have := HNL.out; omega) (fun y hy => by have := (HNO.out y hy).1.2.1; omega) w8 (WT.lst_of_owns (C := entC) (fun _ => rfl) (by decide) hfin)
          rw [WT.layV_yes HMAY.out] at CE
          clear hfin
          go_wp2_with fail
          refine CE.mono ?_
          rintro e w11 ⟨rfl, hB11⟩
          have HB11 := Lib.hid ((HB8.out.trans (hB11.mono HB8.out.size)))
          have h11 := HOB.out.1.later HB11.out
          have f3 := h11.fr 3
          have c3 := h11.cells.2.2.2
          simp only at c3
          obtain ⟨w12, hw12⟩ : ∃ w12, w11.setCell ⟨ob, 3, none⟩ (.string (bs (laidL kE N))) = w12 := ⟨_, rfl⟩
          have n12 : NdeAt (told { x with names := N }) ob w12 := ⟨by rw [← hw12, heap_set h11.obj, HTN.out]; rfl⟩
          have S12 : Stir (fun i => i = ob) w11 w12 := by rw [← hw12]; exact (Stir.refl (fun i => i = ob) w11).set (.inl rfl) _
          have hB12 : Below w.heap.size w w12 := ((Stir.of_below (F := fun i => i = ob) (HOB.out.2.2.trans (HB11.out.mono HOB.out.2.2.size))).trans S12 (fun i hi => .inl hi)).below (B := w.heap.size) (fun i hi => by have := HOB.out.2.1; omega) (Nat.le_refl _)
          have CP := rput_any (HH.out.later hB12) HT.out.rise (by have := HT.out.len; omega) HNE.out { x with names := N }
          obtain ⟨y0, y1, y2, y3⟩ := n12.cells
          have HB12 := Lib.hid hB12
          obtain ⟨⟨mn, md, ml, mb⟩, hM⟩ : ∃ M, told { x with names := N } = M := ⟨_, rfl⟩
          rw [hM] at CP y0 y1 y2 y3
          unfold ndeV at CP
          simp only at CP y0 y1 y2 y3
          clear CE hB11 h11 n12 S12 hB12 hM
          go_wp2_with fail
          refine CP.mono ?_
          rintro e w13 ⟨rfl, h13⟩
          have HFIN := Lib.hid (h13.start HB12.out)
          clear CP h13
          go_wp2
          go_end0
          exact ⟨rfl, HFIN.out⟩

end
end Go.Proofs.YtfokdmijkniomaaGreatDoor

namespace Go.Proofs.YtfokdmijkniomaaGreatDoor
open Go.RowKit Go Go.Maps

theorem wrote_is2 (d s : ByteArray) {a : Nat} (_ha : a ≤ d.size) : (if a + s.size < d.size then (d.extract 0 a ++ s) ++ d.extract (a + s.size) d.size else d.extract 0 a ++ s) = wrote d a s := by
  apply ba_ext
  have e1 : d.data.toList.length = d.size := Array.length_toList (xs := d.data)
  have e2 : (d.extract 0 a).data.toList = d.data.toList.take a := Lib.extract_from_zero _ a
  unfold wrote
  rw [bs_list]
  by_cases h : a + s.size < d.size
  · rw [if_pos h, ByteArray.data_append, Array.toList_append, ByteArray.data_append, Array.toList_append, e2, Lib.extract_to_end]
  · rw [if_neg h, ByteArray.data_append, Array.toList_append, e2, List.drop_of_length_le (by omega), List.append_nil]
theorem w64_at {a : Int} {n : Nat} (h0 : 0 ≤ a) (h1 : a ≤ 16384) (h2 : n ≤ 512) : RowKit.wrap64 (a + (n : Int)) = a + (n : Int) := by simp [RowKit.wrap64]; omega
theorem firsts_is2 (d : ByteArray) (a : Nat) : d.extract 0 a = firsts d a := by
  apply ba_ext
  unfold firsts
  rw [bs_list, Lib.extract_from_zero]
/-- what the document's writes make -/
def writesV (T : List Nod) (l : List ByteArray) (wr : Bool) (a : Int) (s : ByteArray) : List Nod × Int := if wr = true then writeV T l a s else cutV T l a
theorem get_find {T : List Nod} (_hF : Formed T) {s : ByteArray} {l : List ByteArray} (hp : IsPath s l) : (∃ e, e ≠ 0 ∧ getV T s = (zeroN, e) ∧ findE T l = .error e) ∨ ∃ x, nodeAt T x.num = some x ∧ x ∈ T ∧ getV T s = (told x, 0) ∧ findE T l = .ok x ∧ walkE T 1 l = .ok x.num := by
  rw [getV_path hp]
  cases h : findE T l with
  | error e => exact .inl ⟨e, by have := find_err h; omega, rfl, rfl⟩
  | ok x =>
    obtain ⟨h1, h2⟩ := findE_ok h
    exact .inr ⟨x, h2, (at_mem h2).1, rfl, rfl, h1⟩
theorem writes_cases {T : List Nod} (hF : Formed T) {p : ByteArray} {l : List ByteArray} (hp : IsPath p l) (wr : Bool) (a : Int) (s : ByteArray) :
    (∃ e, e ≠ 0 ∧ getV T p = (zeroN, e) ∧ writesV T l wr a s = (T, e)) ∨ ∃ x, nodeAt T x.num = some x ∧ x ∈ T ∧ getV T p = (told x, 0) ∧
      ((x.dir = true ∧ writesV T l wr a s = (T, 143)) ∨ (x.dir = false ∧ ((x.data.size : Int) < a ∨ (wr = true ∧ 16384 < a + s.size)) ∧ writesV T l wr a s = (T, 145)) ∨
        (x.dir = false ∧ ¬ ((x.data.size : Int) < a ∨ (wr = true ∧ 16384 < a + s.size)) ∧ writesV T l wr a s = (putN { x with data := if wr = true then wrote x.data a.toNat s else firsts x.data a.toNat } T, 0))) := by
  rcases get_find hF hp with ⟨e, he, hg, hf⟩ | ⟨x, hx, hm, hg, hf, _⟩
  · refine .inl ⟨e, he, hg, ?_⟩
    unfold writesV writeV cutV fileE
    rw [hf]
    cases wr <;> rfl
  · refine .inr ⟨x, hx, hm, hg, ?_⟩
    unfold writesV writeV cutV fileE
    rw [hf]
    cases hd : x.dir with
    | true => exact .inl ⟨rfl, by cases wr <;> simp [hd]⟩
    | false =>
      refine .inr ?_
      by_cases hc : (x.data.size : Int) < a ∨ (wr = true ∧ 16384 < a + s.size)
      · refine .inl ⟨rfl, hc, ?_⟩
        cases wr with
        | true => simp [hd] at hc ⊢; first | omega | (intro h; omega)
        | false => simp [hd] at hc ⊢; first | omega | (intro h; omega)
      · refine .inr ⟨rfl, hc, ?_⟩
        cases wr with
        | true => simp [hd] at hc ⊢; first | omega | (intro h; omega)
        | false => simp [hd] at hc ⊢; first | omega | (intro h; omega)
section
variable {tb : Nat} {lv : Value} {T : List Nod} {w w' : World}
set_option maxRecDepth 100000 in
set_option maxHeartbeats 16000000 in
theorem rwrites_any (h : RTIs tb lv T w) (hG : Good T) (c : Cmd) {l : List ByteArray} (hp : IsPath c.path l) (hs : c.path.size ≤ 281474976710656) {wr : Bool} (hk : c.kind = if wr = true then 2 else 3) (ha : 0 ≤ c.place ∧ c.place ≤ 16384) (hd : c.data.size ≤ 512) :
    Calls Tryz.prog 30 #[.pointer (some ⟨tb, 0, none⟩), cmdV c] w fun e w' => e = .returned (.int .i64 (writesV T l wr c.place c.data).2) ∧ RLeft tb lv (writesV T l wr c.place c.data).1 w w' := by
  obtain ⟨ck, cp, ct, ca, cd⟩ := c
  simp only at *
  obtain ⟨w1, hw1⟩ : ∃ w1, w.alloc (CmdObj ⟨ck, cp, ct, ca, cd⟩) = w1 := ⟨_, rfl⟩
  have hB1 : Below w.heap.size w w1 := by rw [← hw1]; exact (Below.refl _ w).alloc (Nat.le_refl _) _
  have hc1 : CmdAt ⟨ck, cp, ct, ca, cd⟩ w.heap.size w1 := by rw [← hw1]; exact .new _ _
  obtain ⟨d0, d1, d2, d3, d4⟩ := hc1.cells
  simp only at d0 d1 d2 d3 d4
  unfold CmdObj at hw1
  unfold cmdV
  simp only at hw1 ⊢
  obtain ⟨ha0, ha1⟩ := ha
  have CG := rget_any (h.later hB1) hG.formed hs
  have hkb : (ck == 2) = wr := by rw [hk]; cases wr <;> rfl
  rcases writes_cases hG.formed hp wr ca cd with ⟨E, hE, hg, hv⟩ | ⟨x, hx, hm, hg, hv⟩
  · as_aux_lemma =>
    rw [hg] at CG
    rw [hv]
    have he0 : (E != 0) = true := by simp [hE]
    unfold ndeV zeroN at CG
    simp only at CG ⊢
    clear hG hp hs hk hd hg hv hE hkb
    go_enter Tryz.func30, Tryz.ntmps30
    go_wp2_with fail
    refine CG.mono ?_
    rintro e w2 ⟨rfl, hB2⟩
    obtain ⟨wA, x1, x2, x3, x4, hwA, ⟨k1, k2, k3, k4⟩, ⟨p1, p2, p3, p4⟩, ⟨r1, r2, r3, r4⟩, HN, hBB, hsz⟩ := nde_box ⟨0, false, 0, ⟨#[]⟩⟩ w2
    have HN := Lib.hid HN
    simp only at k1 k2 k3 k4
    have hB4 := hB2.trans (hBB.mono hB2.size)
    have HB4 := Lib.hid (hB1.trans (hB4.mono hB1.size))
    have HC4 := Lib.hid (hc1.later hB4)
    obtain ⟨e0, e1, e2, e3, e4⟩ := HC4.out.cells
    obtain ⟨c0, c1, c2, c3⟩ := HN.out.cells
    simp only at e0 e1 e2 e3 e4 c0 c1 c2 c3
    have HFIN := Lib.hid (RLeft.same h HB4.out)
    clear h hB1 hc1 hB2 hBB hsz CG hB4 d0 d1 d2 d3 d4
    go_wp2
    go_ret
    exact ⟨rfl, HFIN.out⟩
  · obtain ⟨⟨rn, rd, rl, rb⟩, hR⟩ : ∃ R, told x = R := ⟨_, rfl⟩
    have hnd := NodOf.of hG.formed hm
    rw [hg, hR] at CG
    rw [hR] at hnd
    have hrd : x.dir = rd := congrArg Nde.dir hR
    have HH := Lib.hid h
    have HR := Lib.hid hR
    have HGD := Lib.hid hG
    unfold ndeV at CG
    simp only at CG
    rcases hv with ⟨hxd, hv⟩ | ⟨hxd, hc, hv⟩ | ⟨hxd, hc, hv⟩
    · obtain rfl : rd = true := hrd.symm.trans hxd
      as_aux_lemma =>
      rw [hv]
      simp only
      clear hG hp hs hk hd hg hv hkb hR hnd hx hm hrd hxd
      go_enter Tryz.func30, Tryz.ntmps30
      go_wp2_with fail
      refine CG.mono ?_
      rintro e w2 ⟨rfl, hB2⟩
      obtain ⟨wA, x1, x2, x3, x4, hwA, ⟨k1, k2, k3, k4⟩, ⟨p1, p2, p3, p4⟩, ⟨r1, r2, r3, r4⟩, HN, hBB, hsz⟩ := nde_box ⟨rn, true, rl, rb⟩ w2
      have HN := Lib.hid HN
      simp only at k1 k2 k3 k4
      have hB4 := hB2.trans (hBB.mono hB2.size)
      have HB4 := Lib.hid (hB1.trans (hB4.mono hB1.size))
      have HC4 := Lib.hid (hc1.later hB4)
      obtain ⟨e0, e1, e2, e3, e4⟩ := HC4.out.cells
      obtain ⟨c0, c1, c2, c3⟩ := HN.out.cells
      simp only at e0 e1 e2 e3 e4 c0 c1 c2 c3
      have HFIN := Lib.hid (RLeft.same h HB4.out)
      clear h hB1 hc1 hB2 hBB hsz CG hB4 d0 d1 d2 d3 d4
      go_wp2
      go_ret
      exact ⟨rfl, HFIN.out⟩
    · obtain rfl : rd = false := hrd.symm.trans hxd
      as_aux_lemma =>
      rw [hv]
      simp only
      have hbd : x.data = rb := by have h2 : toldB x = rb := congrArg Nde.data hR; rw [← h2]; unfold toldB; simp [hrd]
      rw [hbd] at hc
      have hrb : rb.size ≤ 16384 := hnd.2.2.2.1
      have HWR := Lib.hid (w64_at (a := ca) (n := cd.size) ha0 ha1 hd)
      have hcc : ca > (rb.size : Int) ∨ (ca ≤ (rb.size : Int) ∧ wr = true ∧ ca + (cd.size : Int) > 16384) := by
        rcases hc with h | ⟨h1, h2⟩
        · exact .inl h
        · by_cases h3 : ca ≤ (rb.size : Int)
          · exact .inr ⟨h3, h1, h2⟩
          · exact .inl (by omega)
      clear hG hp hs hk hg hv hR hnd hx hm hrd hc hbd hxd
      rcases hcc with hcc | ⟨hc1', rfl, hc2'⟩
      · go_enter Tryz.func30, Tryz.ntmps30
        go_wp2_with fail
        refine CG.mono ?_
        rintro e w2 ⟨rfl, hB2⟩
        obtain ⟨wA, x1, x2, x3, x4, hwA, ⟨k1, k2, k3, k4⟩, ⟨p1, p2, p3, p4⟩, ⟨r1, r2, r3, r4⟩, HN, hBB, hsz⟩ := nde_box ⟨rn, false, rl, rb⟩ w2
        have HN := Lib.hid HN
        simp only at k1 k2 k3 k4
        have hB4 := hB2.trans (hBB.mono hB2.size)
        have HB4 := Lib.hid (hB1.trans (hB4.mono hB1.size))
        have HC4 := Lib.hid (hc1.later hB4)
        obtain ⟨e0, e1, e2, e3, e4⟩ := HC4.out.cells
        obtain ⟨c0, c1, c2, c3⟩ := HN.out.cells
        simp only at e0 e1 e2 e3 e4 c0 c1 c2 c3
        have HFIN := Lib.hid (RLeft.same h HB4.out)
        clear h hB1 hc1 hB2 hBB hsz CG hB4 d0 d1 d2 d3 d4
        go_wp2
        go_ret
        exact ⟨rfl, HFIN.out⟩
      · have hn1 : ¬ ca > (rb.size : Int) := by omega
        have hwr := HWR.out
        go_enter Tryz.func30, Tryz.ntmps30
        go_wp2_with fail
        refine CG.mono ?_
        rintro e w2 ⟨rfl, hB2⟩
        obtain ⟨wA, x1, x2, x3, x4, hwA, ⟨k1, k2, k3, k4⟩, ⟨p1, p2, p3, p4⟩, ⟨r1, r2, r3, r4⟩, HN, hBB, hsz⟩ := nde_box ⟨rn, false, rl, rb⟩ w2
        have HN := Lib.hid HN
        simp only at k1 k2 k3 k4
        have hB4 := hB2.trans (hBB.mono hB2.size)
        have HB4 := Lib.hid (hB1.trans (hB4.mono hB1.size))
        have HC4 := Lib.hid (hc1.later hB4)
        obtain ⟨e0, e1, e2, e3, e4⟩ := HC4.out.cells
        obtain ⟨c0, c1, c2, c3⟩ := HN.out.cells
        simp only at e0 e1 e2 e3 e4 c0 c1 c2 c3
        have HFIN := Lib.hid (RLeft.same h HB4.out)
        clear h hB1 hc1 hB2 hBB hsz CG hB4 d0 d1 d2 d3 d4
        go_wp2
        go_ret
        exact ⟨rfl, HFIN.out⟩
    · obtain rfl : rd = false := hrd.symm.trans hxd
      rw [hv]
      simp only
      have hbd : x.data = rb := by have h2 : toldB x = rb := congrArg Nde.data hR; rw [← h2]; unfold toldB; simp [hrd]
      rw [hbd] at hc ⊢
      have hrb : rb.size ≤ 16384 := hnd.2.2.2.1
      obtain ⟨A, rfl⟩ : ∃ A : Nat, ca = A := ⟨ca.toNat, by omega⟩
      rw [Int.toNat_natCast]
      have hA1 : A ≤ rb.size := by omega
      have hn1 : ¬ (A : Int) > (rb.size : Int) := by omega
      have hA1i : (A : Int) ≤ (rb.size : Int) := by omega
      have HWR := Lib.hid (w64_at (a := (A : Int)) (n := cd.size) (by omega) (by omega) hd)
      have HNB := Lib.hid (fun (D : ByteArray) => show told { x with data := D } = ⟨rn, false, rl, D⟩ from by
        have e0 : x.num = rn := congrArg Nde.num hR
        have e2 : x.links = rl := congrArg Nde.links hR
        unfold told toldB
        simp [hrd, e0, e2])
      have CPUT := fun (W : World) (hB : Below w.heap.size w W) (D : ByteArray) => rput_any (HH.out.later hB) HGD.out.formed.rise (by have := HGD.out.formed.len; omega) (fun e => by rw [e] at hm; cases hm) { x with data := D }
      simp only [HNB.out] at CPUT
      unfold ndeV at CPUT
      simp only at CPUT
      clear h hG hp hs hg hv hR hnd hx hm hrd hbd hxd
      cases wr with
      | false => as_aux_lemma =>
        simp only [Bool.false_eq_true, if_false]
        rw [← firsts_is2]
        obtain ⟨X, hX⟩ : ∃ X, rb.extract 0 A = X := ⟨_, rfl⟩
        rw [hX]
        simp only [Bool.false_eq_true, if_false] at hk
        subst hk
        clear hkb hc hd
        have hwr := HWR.out
        go_enter Tryz.func30, Tryz.ntmps30
        go_wp2_with fail
        refine CG.mono ?_
        rintro e w2 ⟨rfl, hB2⟩
        obtain ⟨wA, x1, x2, x3, x4, hwA, ⟨k1, k2, k3, k4⟩, ⟨p1, p2, p3, p4⟩, ⟨r1, r2, r3, r4⟩, HN, hBB, hsz⟩ := nde_box ⟨rn, false, rl, rb⟩ w2
        have HN := Lib.hid HN
        simp only at k1 k2 k3 k4
        have hB4 := hB2.trans (hBB.mono hB2.size)
        have HB4 := Lib.hid (hB1.trans (hB4.mono hB1.size))
        have HC4 := Lib.hid (hc1.later hB4)
        obtain ⟨e0, e1, e2, e3, e4⟩ := HC4.out.cells
        obtain ⟨c0, c1, c2, c3⟩ := HN.out.cells
        simp only at e0 e1 e2 e3 e4 c0 c1 c2 c3
        obtain ⟨w5, hw5⟩ : ∃ w5, x4.setCell ⟨w2.heap.size, 3, none⟩ (.string (X)) = w5 := ⟨_, rfl⟩
        have n5 : NdeAt ⟨rn, false, rl, X⟩ w2.heap.size w5 := ⟨by rw [← hw5, heap_set HN.out.obj]; rfl⟩
        have f3 := HN.out.fr 3
        have hB5 : Below w.heap.size w w5 := ((Stir.of_below (F := fun i => i = w2.heap.size) HB4.out).trans (show Stir (fun i => i = w2.heap.size) x4 w5 by rw [← hw5]; exact (Stir.refl (fun i => i = w2.heap.size) x4).set (.inl rfl) _) (fun i hi => .inl hi)).below (B := w.heap.size) (fun i hi => by rw [hi]; exact Nat.le_trans hB1.size hB2.size) (Nat.le_refl _)
        have CP := CPUT w5 hB5 (X)
        obtain ⟨y0, y1, y2, y3⟩ := n5.cells
        simp only at y0 y1 y2 y3
        have HB5 := Lib.hid hB5
        clear hB1 hc1 hB2 hBB hsz CG hB4 d0 d1 d2 d3 d4 CPUT n5 hB5
        go_wp2_with fail
        refine CP.mono ?_
        rintro e w6 ⟨rfl, h6⟩
        have HFIN := Lib.hid (h6.start HB5.out)
        clear CP h6
        go_wp2
        go_ret
        exact ⟨rfl, HFIN.out⟩
      | true =>
        simp only [if_true]
        have hn2 : ¬ (A : Int) + (cd.size : Int) > 16384 := fun h => hc (.inr ⟨rfl, h⟩)
        rw [← wrote_is2 rb cd hA1]
        obtain ⟨X, hX⟩ : ∃ X, rb.extract 0 A = X := ⟨_, rfl⟩
        have hXs : X.size = A := by rw [← hX, ByteArray.size_extract]; omega
        rw [hX]
        have hsz1 : ¬ 9223372036854775807 < X.size + cd.size := by omega
        obtain ⟨Y, hY⟩ : ∃ Y, X ++ cd = Y := ⟨_, rfl⟩
        have hYs : Y.size = A + cd.size := by rw [← hY, ByteArray.size_append, hXs]
        rw [hY]
        simp only [if_true] at hk
        subst hk
        clear hkb hc hd
        by_cases hl : A + cd.size < rb.size
        · as_aux_lemma =>
          rw [if_pos hl]
          have hli : (Y.size : Int) < (rb.size : Int) := by omega
          rw [← hYs]
          obtain ⟨Z, hZ⟩ : ∃ Z, rb.extract Y.size rb.size = Z := ⟨_, rfl⟩
          have hZs : Z.size = rb.size - Y.size := by rw [← hZ, ByteArray.size_extract]; omega
          have hsz2 : ¬ 9223372036854775807 < Y.size + Z.size := by omega
          have hYle : Y.size ≤ rb.size := by omega
          have hYli : (Y.size : Int) ≤ (rb.size : Int) := by omega
          rw [hZ]
          clear hZs hYs hXs hl
          have hwr := HWR.out
          go_enter Tryz.func30, Tryz.ntmps30
          go_wp2_with fail
          refine CG.mono ?_
          rintro e w2 ⟨rfl, hB2⟩
          obtain ⟨wA, x1, x2, x3, x4, hwA, ⟨k1, k2, k3, k4⟩, ⟨p1, p2, p3, p4⟩, ⟨r1, r2, r3, r4⟩, HN, hBB, hsz⟩ := nde_box ⟨rn, false, rl, rb⟩ w2
          have HN := Lib.hid HN
          simp only at k1 k2 k3 k4
          have hB4 := hB2.trans (hBB.mono hB2.size)
          have HB4 := Lib.hid (hB1.trans (hB4.mono hB1.size))
          have HC4 := Lib.hid (hc1.later hB4)
          obtain ⟨e0, e1, e2, e3, e4⟩ := HC4.out.cells
          obtain ⟨c0, c1, c2, c3⟩ := HN.out.cells
          simp only at e0 e1 e2 e3 e4 c0 c1 c2 c3
          obtain ⟨w5, hw5⟩ : ∃ w5, x4.setCell ⟨w2.heap.size, 3, none⟩ (.string (Y ++ Z)) = w5 := ⟨_, rfl⟩
          have n5 : NdeAt ⟨rn, false, rl, Y ++ Z⟩ w2.heap.size w5 := ⟨by rw [← hw5, heap_set HN.out.obj]; rfl⟩
          have f3 := HN.out.fr 3
          have hB5 : Below w.heap.size w w5 := ((Stir.of_below (F := fun i => i = w2.heap.size) HB4.out).trans (show Stir (fun i => i = w2.heap.size) x4 w5 by rw [← hw5]; exact (Stir.refl (fun i => i = w2.heap.size) x4).set (.inl rfl) _) (fun i hi => .inl hi)).below (B := w.heap.size) (fun i hi => by rw [hi]; exact Nat.le_trans hB1.size hB2.size) (Nat.le_refl _)
          have CP := CPUT w5 hB5 (Y ++ Z)
          obtain ⟨y0, y1, y2, y3⟩ := n5.cells
          simp only at y0 y1 y2 y3
          have HB5 := Lib.hid hB5
          clear hB1 hc1 hB2 hBB hsz CG hB4 d0 d1 d2 d3 d4 CPUT n5 hB5
          go_wp2_with fail
          refine CP.mono ?_
          rintro e w6 ⟨rfl, h6⟩
          have HFIN := Lib.hid (h6.start HB5.out)
          clear CP h6
          go_wp2
          go_ret
          exact ⟨rfl, HFIN.out⟩
        · as_aux_lemma =>
          rw [if_neg hl]
          have hli : ¬ (Y.size : Int) < (rb.size : Int) := by omega
          clear hYs hXs hl
          have hwr := HWR.out
          go_enter Tryz.func30, Tryz.ntmps30
          go_wp2_with fail
          refine CG.mono ?_
          rintro e w2 ⟨rfl, hB2⟩
          obtain ⟨wA, x1, x2, x3, x4, hwA, ⟨k1, k2, k3, k4⟩, ⟨p1, p2, p3, p4⟩, ⟨r1, r2, r3, r4⟩, HN, hBB, hsz⟩ := nde_box ⟨rn, false, rl, rb⟩ w2
          have HN := Lib.hid HN
          simp only at k1 k2 k3 k4
          have hB4 := hB2.trans (hBB.mono hB2.size)
          have HB4 := Lib.hid (hB1.trans (hB4.mono hB1.size))
          have HC4 := Lib.hid (hc1.later hB4)
          obtain ⟨e0, e1, e2, e3, e4⟩ := HC4.out.cells
          obtain ⟨c0, c1, c2, c3⟩ := HN.out.cells
          simp only at e0 e1 e2 e3 e4 c0 c1 c2 c3
          obtain ⟨w5, hw5⟩ : ∃ w5, x4.setCell ⟨w2.heap.size, 3, none⟩ (.string (Y)) = w5 := ⟨_, rfl⟩
          have n5 : NdeAt ⟨rn, false, rl, Y⟩ w2.heap.size w5 := ⟨by rw [← hw5, heap_set HN.out.obj]; rfl⟩
          have f3 := HN.out.fr 3
          have hB5 : Below w.heap.size w w5 := ((Stir.of_below (F := fun i => i = w2.heap.size) HB4.out).trans (show Stir (fun i => i = w2.heap.size) x4 w5 by rw [← hw5]; exact (Stir.refl (fun i => i = w2.heap.size) x4).set (.inl rfl) _) (fun i hi => .inl hi)).below (B := w.heap.size) (fun i hi => by rw [hi]; exact Nat.le_trans hB1.size hB2.size) (Nat.le_refl _)
          have CP := CPUT w5 hB5 (Y)
          obtain ⟨y0, y1, y2, y3⟩ := n5.cells
          simp only at y0 y1 y2 y3
          have HB5 := Lib.hid hB5
          clear hB1 hc1 hB2 hBB hsz CG hB4 d0 d1 d2 d3 d4 CPUT n5 hB5
          go_wp2_with fail
          refine CP.mono ?_
          rintro e w6 ⟨rfl, h6⟩
          have HFIN := Lib.hid (h6.start HB5.out)
          clear CP h6
          go_wp2
          go_ret
          exact ⟨rfl, HFIN.out⟩

end
end Go.Proofs.YtfokdmijkniomaaGreatDoor

