/-
  FilNo / FilRf / FilRg.
-/
import Derived.Test.YtfncoojpommfcaaGreatDoorFilFr
import Derived.Test.YtfncoojpommfcaaGreatDoorKS
import Derived.Test.YtfncoojpommfcaaGreatDoorT1
import Derived.Test.YtfncoojpommfcaaGreatDoorRA
import Derived.OwnWalk
import Derived.Deep.CutRange
import Derived.Laws.AppendOwnNone
import Derived.Test.YtfncoojpommfcaaGreatDoorKG
namespace Go.Proofs.YtfncoojpommfcaaGreatDoor
open Go.ChangeShapes Go.WideShapes Go.ChangeAt Go.RowKit Go

section
variable {H : Type} {enc : TypeId × Value → H} {W : World} {base : Nat} {v : Value} {d : DataW H} {p : List MemPlace} {ts : List TypeId} {ds : List (DataW H)} {j : Nat}
theorem cellsNde : Tryz.prog.cellsOf 38 = 4 := by kernel_rfl
theorem bytesNde : Tryz.prog.bytesOf 38 = 40 := by kernel_rfl
theorem nde_fields : ∃ f0 f1 f2 f3 : Field, Tryz.prog.underlying 38 = some (.struct #[f0, f1, f2, f3]) ∧ f0.offset = 0 ∧ f1.offset = 1 ∧ f2.offset = 2 ∧ f3.offset = 3 ∧ f0.type = 3 ∧ f1.type = 4 ∧ f2.type = 3 ∧ f3.type = 9 :=
  ⟨_, _, _, _, Tryz.underlying38, rfl, rfl, rfl, rfl, rfl, rfl, rfl, rfl⟩
set_option maxRecDepth 100000 in
theorem nde_read {n : Nat} {cs : List Value} {x : DataW H × List MemPlace} {sp : Nat → Bool} {hd : Bool} {bb : Nat} (h : DataW.trod enc Tryz.prog W bb sp hd n 38 cs = some x) :
    ∃ q : Nde, cs = ndeC q ∧ (IntOk q.num ∧ IntOk q.links) ∧ q.data.data.toList.length ∈ DataW.weights Tryz.prog 38 x.1 := by
  obtain ⟨f0, f1, f2, f3, hu, o0, o1, o2, o3, t0, t1, t2, t3⟩ := nde_fields
  obtain ⟨xs, k, _, hx, hl, hxl, hf⟩ := DataW.trod_struct hu h
  rw [cellsNde] at hl
  match xs, hxl, cs, hl with
  | [y0, y1, y2, y3], _, [v0, v1, v2, v3], _ =>
    have g0 := hf 0 f0 rfl
    have g1 := hf 1 f1 rfl
    have g2 := hf 2 f2 rfl
    have g3 := hf 3 f3 rfl
    rw [o0, t0, cellsInt] at g0
    rw [o1, t1, cellsBool] at g1
    rw [o2, t2, cellsInt] at g2
    rw [o3, t3, cellsStr] at g3
    obtain ⟨n0, e0, z0, r0⟩ := DataW.trod_int Tryz.underlying3 g0
    obtain ⟨n1, e1, z1⟩ := DataW.trod_bool Tryz.underlying4 g1
    obtain ⟨n2, e2, z2, r2⟩ := DataW.trod_int Tryz.underlying3 g2
    obtain ⟨n3, e3, z3, _⟩ := DataW.trod_string Tryz.underlying9 g3
    simp at e0 e1 e2 e3
    exact ⟨⟨n0, n1, n2, n3⟩, by rw [e0, e1, e2, e3]; rfl, ⟨int_range r0, int_range r2⟩, by rw [hx]; simp only [DataW.weights, hu]; exact DataW.weights_mem_each (j := 3) (t := 9) (d := .lit (.string n3.data.toList)) (by simp [t3]) (by simp [z3]) _ (by simp [DataW.weights])⟩
theorem nde_reads {n : Nat} {cs : List Value} {x : DataW H × List MemPlace} {sp : Nat → Bool} {hd : Bool} {bb : Nat} (h : DataW.trod enc Tryz.prog W bb sp hd n 38 cs = some x) (hm : ∀ m ∈ DataW.weights Tryz.prog 38 x.1, m ≤ reachBytes) : ∃ q : Nde, cs = ndeC q ∧ NdeIn q := by
  obtain ⟨q, e, h1, h2⟩ := nde_read h
  exact ⟨q, e, h1.1, h1.2, Nat.le_trans (reach_size (hm _ h2)) (by decide)⟩
/-- what a slice of a call's argument is, with its nodes -/
def FullAt (W : World) (v : Value) (l : List Nde) : Prop := LstAt ndeC 4 W v l ∧ l.length * 40 ≤ 140737488351232 ∧ (v = .slice none 0 0 ∨ ∃ ad cap, v = .slice (some ad) l.length cap)
set_option maxRecDepth 100000 in
theorem nodes_open (hval : Value.okWide Tryz.prog W .any base 32 v) (h0 : DataW.Trod enc Tryz.prog W 0 (fun _ => true) true 32 v d p) (hlt : ∀ x ∈ p, x.block < W.heap.size)
    (hreach : (DataW.weightsEach Tryz.prog ts ds).all (· ≤ reachBytes) = true) (hts : ts[j]? = some 32) (hds : ds[j]? = some d) :
    ∃ l : List Nde, FullAt W v l ∧ ∀ r ∈ l, NdeIn r := by
  obtain ⟨a0, len, cap, rfl⟩ := okWide_slice Tryz.underlying32 hval
  obtain ⟨fuel, hfu⟩ := id h0
  obtain ⟨l, h1, h2, h3⟩ := lst_trod ndeC 4 NdeIn 38 32 Tryz.underlying32 cellsNde (by decide) (fun _ => rfl) nde_reads hfu hlt (fun m hm => by have := List.all_eq_true.1 hreach _ (DataW.weights_mem_each hts hds m hm); simpa using this)
  obtain ⟨a1, cap1, e1, _⟩ := id h1
  have hlen : len = l.length := by injection e1
  rcases Deep.open_slice Tryz.underlying32 hfu with ⟨hcs, hx⟩ | ⟨a, len', cap', m, n, D, Pl, hcs, hb, hl, hm, hmm, hx, hel⟩
  · simp [Value.cells] at hcs
    refine ⟨l, ⟨h1, by omega, .inl ?_⟩, h3⟩
    rw [hcs.1, hcs.2.1, hcs.2.2]
  · simp [Value.cells] at hcs
    obtain ⟨rfl, rfl, rfl⟩ := hcs
    simp only [Prod.mk.injEq] at hx
    obtain ⟨rfl, rfl⟩ := hx
    have hr : len * 40 ≤ 140737488351232 := by
      have := sized_slice hreach (j := j) (t := 32) (e := 38) hts hds Tryz.underlying32
      rw [bytesNde] at this
      simp only [List.length_map, List.length_range, reachBytes] at this
      omega
    exact ⟨l, ⟨h1, by omega, .inr ⟨a, cap, by rw [hlen]⟩⟩, h3⟩
end
end Go.Proofs.YtfncoojpommfcaaGreatDoor

namespace Go.Proofs.YtfncoojpommfcaaGreatDoor
open Go.RowKit Go Go.Maps

theorem lst_news {W : World} {b off : Nat} {l : List Nde} (hc : ∀ j (_ : j < l.length) (i : Nat) (_ : i < 4), W.cell? ⟨b, off + j * 4 + i, none⟩ = (ndeC l[j])[i]?) :
    ∀ j u, (l.flatMap ndeC)[j]? = some u → W.cell? (Addr.add ⟨b, off, none⟩ j) = some u := by
  intro j u hu
  have hlen : (l.flatMap ndeC).length = l.length * 4 := by
    clear hu hc
    induction l with
    | nil => rfl
    | cons x l ih => rw [List.flatMap_cons, List.length_append, ih, List.length_cons]; show 4 + _ = _; omega
  have hj : j < l.length * 4 := by
    rw [← hlen]
    exact (List.getElem?_eq_some_iff.1 hu).1
  have e : j = j / 4 * 4 + j % 4 := by omega
  have h1 : j / 4 < l.length := by omega
  have h2 : j % 4 < 4 := Nat.mod_lt _ (by omega)
  rw [Addr.add_lit]
  rw [e, WT.flat_at (C := ndeC) (k := 4) (fun _ => rfl) l (j / 4) h1 (j % 4) h2] at hu
  have h3 := hc (j / 4) h1 (j % 4) h2
  rw [hu] at h3
  rw [show off + j = off + j / 4 * 4 + j % 4 by omega]
  exact h3
theorem full_news {W : World} {v : Value} {l : List Nde} (h : FullAt W v l) : (v = .slice none 0 0 ∧ l = []) ∨ ∃ ad cap, v = .slice (some ad) l.length cap ∧ ∀ W', Below W.heap.size W W' → ∀ j u, (l.flatMap ndeC)[j]? = some u → W'.cell? (ad.add j) = some u := by
  obtain ⟨h1, _, h2 | ⟨ad, cap, h2⟩⟩ := h
  · obtain ⟨a, c, e, _⟩ := h1
    rw [h2] at e
    injection e with _ e2 _
    exact .inl ⟨h2, List.eq_nil_of_length_eq_zero e2.symm⟩
  · refine .inr ⟨ad, cap, h2, fun W' hB j u hu => ?_⟩
    by_cases hl : l = []
    · subst hl; simp at hu
    · obtain ⟨a, c, e, hc⟩ := h1.later hB
      obtain ⟨b, off, rfl, _, hc2⟩ := hc hl
      rw [h2] at e
      injection e with e1 _ _
      injection e1 with e1
      subst e1
      exact lst_news hc2 j u hu
section
variable {T : List Nod}
theorem good_head (h : Good T) : ∃ r U, T = r :: U ∧ r.num = 1 ∧ r.dir = true ∧ r.links = 1 := by
  have F := h.formed
  obtain ⟨r, hr, hd, hl⟩ := F.root
  obtain ⟨hm, hn⟩ := at_mem hr
  cases T with
  | nil => cases hm
  | cons y U =>
    rcases List.mem_cons.1 hm with rfl | hm
    · exact ⟨r, U, rfl, hn, hd, hl⟩
    · have h1 := (List.pairwise_cons.1 F.rise).1 r hm
      have h2 := (F.num y (by simp)).1
      simp only [ltI, decide_eq_true_eq] at h1
      omega
/-- what the document asks of nodes that were read -/
theorem meet_iff (hr : RiseN T) (hl : T.length ≤ 60) (hn : ∀ k x, nodeAt T k = some x → (1 ≤ x.num ∧ x.num ≤ 65535) ∧ (x.dir = false → x.names = [] ∧ x.data.size ≤ 16384) ∧ (x.dir = true → x.data = ⟨#[]⟩ ∧ RiseE x.names ∧ x.names.length ≤ 60 ∧ ∀ e ∈ x.names, NameOk e.name))
    (h1 : ∃ r, nodeAt T 1 = some r ∧ r.dir = true ∧ r.links = 1) :
    Good T ↔ (meetL T 8 (namesAt T 1) (fun _ => 0)).2 = true ∧ ∀ x ∈ T, x.num ≠ 1 → 1 ≤ x.links ∧ ((meetL T 8 (namesAt T 1) (fun _ => 0)).1 x.num : Int) = x.links := by
  constructor
  · intro h
    have hm := meet_yes h.okE (c := fun _ => 0) (fun k hk => .inl (by simpa using h.tot_dir hk))
    rw [hm]
    refine ⟨rfl, fun x hx hx1 => ?_⟩
    have := h.formed.links x hx hx1
    simp only [Nat.zero_add]
    rw [h.tot]
    exact ⟨this.2.1, this.1.symm⟩
  · rintro ⟨h2, h3⟩
    obtain ⟨c, b, hm⟩ : ∃ c b, meetL T 8 (namesAt T 1) (fun _ => 0) = (c, b) := ⟨_, _, rfl⟩
    rw [hm] at h2 h3
    simp only at h2 h3
    subst h2
    exact good_of_meet hr hl hn h1 hm fun k x hx hk => by
      have h := h3 x (at_mem hx).1 (by rw [(at_mem hx).2]; exact hk)
      rw [(at_mem hx).2] at h
      exact h
theorem rise_snoc (hr : RiseN T) {y : Nod} (h : ∀ x ∈ T, x.num < y.num) : RiseN (T ++ [y]) := by
  refine List.pairwise_append.2 ⟨hr, List.pairwise_singleton _ _, fun a ha b hb => ?_⟩
  rw [List.mem_singleton.1 hb]
  exact decide_eq_true (h a ha)
/-- nodes that were looked at, so far -/
structure Looked (l : List Nde) (T : List Nod) (last : Int) : Prop where
  taken : Taken l T last
  rise : RiseN T
  num : ∀ x ∈ T, x.num ≤ 65535
  prev : (T = [] ∧ last = 0) ∨ ∃ (j : Nat) (h : j < l.length), T.length = j + 1 ∧ last = l[j].num
theorem Looked.none (l : List Nde) : Looked l [] 0 := ⟨.none l, List.Pairwise.nil, (fun x hx => by cases hx), .inl ⟨rfl, rfl⟩⟩
theorem Looked.more {l : List Nde} {last : Int} (h : Looked l T last) (hl : T.length < l.length) {y : Nod} (hy : NodOf l[T.length] y) (h1 : ¬ y.num ≤ last) (h2 : y.num ≤ 65535) : Looked l (T ++ [y]) y.num := by
  refine ⟨h.taken.more hl hy h1, rise_snoc h.rise fun x hx => ?_, fun x hx => ?_, .inr ⟨T.length, hl, by simp, hy.1⟩⟩
  · have := (h.taken.num x hx).2; omega
  · rcases List.mem_append.1 hx with hx | hx
    · exact h.num x hx
    · rw [List.mem_singleton.1 hx]; exact h2
theorem Looked.no {l : List Nde} {last : Int} (h : Looked l T last) (hl : T.length < l.length) (hn : (∀ x, ¬ NodOf l[T.length] x) ∨ l[T.length].num ≤ last ∨ 65535 < l[T.length].num) : ∀ U, Good U → tolds U ≠ l := by
  intro U hU e
  rcases hn with hn | hn | hn
  · exact h.taken.no hl (.inl hn) U hU.formed e
  · exact h.taken.no hl (.inr hn) U hU.formed e
  · subst e
    have hul : (tolds U).length = U.length := by unfold tolds; simp
    have := (hU.formed.num U[T.length] (List.getElem_mem (by omega))).2
    rw [tolds_get] at hn
    exact absurd this (by show ¬ U[T.length].num ≤ 65535; simpa [told] using hn)
/-- the nodes of a list that was looked at -/
theorem Looked.parts {l : List Nde} {last : Int} (h : Looked l T last) (hl : T.length = l.length) (h60 : l.length ≤ 60) : RawR T ∧
    (∀ k x, nodeAt T k = some x → (1 ≤ x.num ∧ x.num ≤ 65535) ∧ (x.dir = false → x.names = [] ∧ x.data.size ≤ 16384) ∧ (x.dir = true → x.data = ⟨#[]⟩ ∧ RiseE x.names ∧ x.names.length ≤ 60 ∧ ∀ e ∈ x.names, NameOk e.name)) := by
  have each : ∀ x ∈ T, ∃ r, NodOf r x ∧ told x = r := fun x hx => by
    obtain ⟨i, hi, rfl⟩ := List.mem_iff_getElem.1 hx
    have := h.taken.each i hi (by omega)
    exact ⟨_, this, this.told⟩
  refine ⟨⟨h.rise, by omega, fun x hx hd => ?_, fun x hx => ?_, fun x hx hd => ?_⟩, fun k x hx => ⟨⟨(h.taken.num x (at_mem hx).1).1, h.num x (at_mem hx).1⟩, fun hd => ?_, fun hd => ?_⟩⟩
  · obtain ⟨r, hr, e⟩ := each x hx
    obtain ⟨_, e2, _, _, ⟨a, _⟩ | ⟨_, _, c, d⟩⟩ := hr
    · rw [← e2, hd] at a; cases a
    · rw [e]; exact ⟨c, d⟩
  · obtain ⟨r, hr, e⟩ := each x hx
    rw [e]; exact hr.2.2.2.1
  · obtain ⟨r, hr, e⟩ := each x hx
    obtain ⟨_, e2, _, _, ⟨_, _, c⟩ | ⟨a, _⟩⟩ := hr
    · exact c
    · rw [← e2, hd] at a; cases a
  · obtain ⟨r, hr, e⟩ := each x (at_mem hx).1
    obtain ⟨_, e2, _, s, ⟨_, b, c⟩ | ⟨a, _⟩⟩ := hr
    · exact ⟨c, by rw [b]; exact s⟩
    · rw [← e2, hd] at a; cases a
  · obtain ⟨r, hr, e⟩ := each x (at_mem hx).1
    obtain ⟨_, e2, _, _, ⟨a, _⟩ | ⟨_, b, c, d⟩⟩ := hr
    · rw [← e2, hd] at a; cases a
    · exact ⟨b, rise_of_may c.1, d, fun e he => by
        obtain ⟨i, hi, rfl⟩ := List.mem_iff_getElem.1 he
        exact (c.1.2 i hi hi).1.1⟩
/-- a file's node; a directory's -/
theorem nod_file {r : Nde} (hd : r.dir = false) (hs : ¬ 16384 < r.data.size) : NodOf r ⟨r.num, false, r.links, r.data, []⟩ := ⟨rfl, hd.symm, rfl, by omega, .inl ⟨hd, rfl, rfl⟩⟩
theorem nod_dir {r : Nde} (hd : r.dir = true) (hs : ¬ 16384 < r.data.size) {m : List Ent} (hm : IsL kE r.data.data.toList m) (hl : ¬ 60 < m.length) : NodOf r ⟨r.num, true, r.links, ⟨#[]⟩, m⟩ := ⟨rfl, hd.symm, rfl, by omega, .inr ⟨hd, rfl, hm, by show m.length ≤ 60; omega⟩⟩
theorem nod_big {r : Nde} (hs : 16384 < r.data.size) : ∀ x, ¬ NodOf r x := fun x h => by have := h.2.2.2.1; omega
theorem nod_none {r : Nde} (hd : r.dir = true) (hn : ∀ m, ¬ IsL kE r.data.data.toList m) : ∀ x, ¬ NodOf r x := fun x h => by
  rcases h.2.2.2.2 with ⟨a, _⟩ | ⟨_, _, c, _⟩
  · rw [hd] at a; cases a
  · exact hn _ c
theorem nod_many {r : Nde} (hd : r.dir = true) {m : List Ent} (hm : IsL kE r.data.data.toList m) (hl : 60 < m.length) : ∀ x, ¬ NodOf r x := fun x h => by
  rcases h.2.2.2.2 with ⟨a, _⟩ | ⟨_, _, c, d⟩
  · rw [hd] at a; cases a
  · have := hm.uniq (readsE (a := 65535) (by omega)) c
    subst this
    omega
end
theorem infoI1r : (Tryz.prog.info? 3).map (fun i => (i.zero, i.size, i.bytes)) = some (some (.int .i64 0), 1, 8) := by kernel_rfl
theorem make_ints0 (n : Nat) (hn : n ≤ 1000) (W : World) : (Instr.makeSlice 58 (.int .i64 n) (.int .i64 n)).run Tryz.prog W = .ok (.slice (some ⟨W.heap.size, 0, none⟩) n n) (W.alloc (intsO n (fun _ => 0))) := by
  obtain ⟨i0, hi, hz0, hz1, hz2⟩ := info_parts infoI1r
  have h := run_makeSlice (P := Tryz.prog) (w := W) 58 3 i0 (.int .i64 0) Tryz.underlying58 hi hz0 .i64 .i64 (n : Int) (n : Int) (by omega) (by omega) (by rw [hz1]; omega) (by rw [hz2]; omega) (by omega)
  rw [hz1, Int.toNat_natCast, Nat.mul_one] at h
  have e : madeCells (Value.int .i64 0).cells n = ((List.range n).map (fun _ => Value.int .i64 0)).toArray := by
    apply Array.toList_inj.1
    rw [show (Value.int .i64 0).cells = #[Value.int .i64 0] from rfl, toList_madeCells_one, List.map_const', List.length_range]
  rw [e] at h
  exact h
end Go.Proofs.YtfncoojpommfcaaGreatDoor

namespace Go.Proofs.YtfncoojpommfcaaGreatDoor
open Go.RowKit Go Go.Maps

/-- what the document's From answers -/
def RFromE (l : List Nde) (e : Ending) : Prop := ((∃ T, Good T ∧ tolds T = l) ∧ ∃ u, e = .returned (.tuple #[u, .int .i64 0])) ∨ ((∀ T, Good T → tolds T ≠ l) ∧ e = .returned (.tuple #[.pointer none, .int .i64 1]))
set_option maxRecDepth 100000 in
set_option maxHeartbeats 16000000 in
theorem rfrom_any (l : List Nde) (hok : ∀ r ∈ l, NdeIn r) (v : Value) (w : World) (hv : FullAt w v l) :
    Calls Tryz.prog 27 #[v] w fun e w' => RFromE l e ∧ Below w.heap.size w w' := by
  obtain ⟨w1, hw1⟩ : ∃ w1, w.alloc (.cells #[] 38) = w1 := ⟨_, rfl⟩
  have hB1 : Below w.heap.size w w1 := by rw [← hw1]; exact (Below.refl _ w).alloc (Nat.le_refl _) _
  have r1 : w1.ownsRow w.heap.size 38 4 (.slice (some ⟨w.heap.size, 0, none⟩) 0 0) 0 [] := by
    rw [← hw1]
    exact ⟨rfl, .inr ⟨w.heap.size, 0, #[], rfl, Nat.le_refl _, heap_alloc_new _ _, Nat.le_refl _, by unfold maxLen; omega, rfl, rfl⟩⟩
  obtain ⟨i0, hi, hz0, hz1, hz2⟩ := info_parts infoNde
  have HR1 := Lib.hid r1
  have HB1 := Lib.hid hB1
  have HOK := Lib.hid hok
  have HLST := Lib.hid hv.1
  have hsz := hv.2.1
  rcases full_news hv with ⟨rfl, rfl⟩ | ⟨ad, cap, rfl, hnews⟩
  · as_aux_lemma =>
    have HNO := Lib.hid (show ∀ T, Good T → tolds T ≠ [] from fun T hT e => by
      obtain ⟨r, U, rfl, _⟩ := good_head hT
      cases e)
    have HB2 := Lib.hid (hB1.trans (((Below.refl _ w1).alloc (Nat.le_refl _) (RTObj (.slice (some ⟨w.heap.size, 0, none⟩) 0 0))).mono hB1.size))
    unfold RTObj at HB2
    clear hv hB1 r1 hok hsz HLST
    go_enter Tryz.func27, Tryz.ntmps27
    go_wp2_with (at_builtin; refine wpList_append_own_none rfl _ _ 32 rfl w.heap.size 38 i0 4 Tryz.underlying32 hi _ 0 _ rfl HR1.out rfl ?_)
    go_ret2
    exact ⟨.inr ⟨HNO.out, rfl⟩, HB2.out⟩
  · have hlen4 : (l.flatMap ndeC).length = l.length * 4 := by
      clear hv hB1 r1 hok hsz HLST hnews HOK
      induction l with
      | nil => rfl
      | cons x l ih => rw [List.flatMap_cons, List.length_append, ih, List.length_cons]; show 4 + _ = _; omega
    have hone : ∀ u ∈ l.flatMap ndeC, u.oneCell' = true := fun u hu => by
      obtain ⟨x, _, hx⟩ := List.mem_flatMap.1 hu
      simp only [ndeC, List.mem_cons, List.not_mem_nil, or_false] at hx
      rcases hx with rfl | rfl | rfl | rfl <;> rfl
    have N1 := Lib.hid (hnews w1 hB1)
    have HSZ := Lib.hid hsz
    clear hv hnews r1 hok
    go_enter Tryz.func27, Tryz.ntmps27
    go_upto_region 2 with (at_builtin; go_loud (refine wpList_append_own _ rfl _ _ 32 rfl w.heap.size 38 i0 _ 4 40 Tryz.underlying32 hi hz0 hz1 hz2 rfl (by decide) _ 0 _ rfl HR1.out ad l.length cap (l.flatMap ndeC) rfl hlen4 N1.out hone (by unfold maxLen; omega) (by omega) (by have := HB1.out.size; omega) ?_; intro v' w2 hown hgrow _; have hB2 : Below w.heap.size w w2 := HB1.out.grown hgrow HB1.out.size (fun j e => (HR1.out.lt j e).1); have hown2 : w2.ownsRow w.heap.size 38 4 v' l.length (l.flatMap ndeC) := (by simpa using hown); have hls := WT.lst_of_owns (C := ndeC) (k := 4) (l := l) (fun _ => rfl) (by decide) hown2; obtain ⟨a2, cap2, rfl⟩ := WT.row_shape hown2; have HLS := Lib.hid hls; have HB2 := Lib.hid hB2; obtain ⟨w3, hw3⟩ : ∃ w3, w2.alloc (RTObj (.slice a2 l.length cap2)) = w3 := ⟨_, rfl⟩; have hB23 : Below w2.heap.size w2 w3 := (by rw [← hw3]; exact (Below.refl _ w2).alloc (Nat.le_refl _) _); have HT3 := Lib.hid (show w3.heap[w2.heap.size]? = some (RTObj (.slice a2 l.length cap2)) from (by rw [← hw3]; exact heap_alloc_new w2 _)); have HB3 := Lib.hid (HB2.out.trans (hB23.mono HB2.out.size)); have HL3 := Lib.hid (HLS.out.later hB23); have HS3 := Lib.hid (show w2.heap.size < w3.heap.size from lt_of_heap HT3.out); unfold RTObj at hw3; clear hown hown2 hgrow hls hB2 hB23))
    clear HLS hlen4 hone N1 HR1
    by_cases h0 : l.length < 1
    · as_aux_lemma =>
      have hz : (l.length : Int) < 1 := by omega
      have HNO := Lib.hid (show ∀ T, Good T → tolds T ≠ l from fun T hT e => by
        obtain ⟨r, U, rfl, _⟩ := good_head hT
        rw [← e] at h0
        exact absurd h0 (by simp [tolds]))
      clear h0
      go_wp2
      go_ret2
      exact ⟨.inr ⟨HNO.out, rfl⟩, HB3.out⟩
    by_cases h60 : 60 < l.length
    · as_aux_lemma =>
      have hz : ¬ (l.length : Int) < 1 := by omega
      have hz2 : (60 : Int) < (l.length : Int) := by omega
      have HNO := Lib.hid (show ∀ T, Good T → tolds T ≠ l from fun T hT e => by
        have := hT.formed.len
        rw [← e, tolds_len] at h60
        omega)
      clear h0 h60
      go_wp2
      go_ret2
      exact ⟨.inr ⟨HNO.out, rfl⟩, HB3.out⟩
    have hz : ¬ (l.length : Int) < 1 := by omega
    have hz2 : ¬ (60 : Int) < (l.length : Int) := by omega
    have h1l : 0 < l.length := by omega
    have HARG := Lib.hid (fun (W : World) (hB : Below w.heap.size w W) => show ∃ b off, (some ad : Option Addr) = some ⟨b, off, none⟩ ∧ ∀ j (_ : j < l.length) (i : Nat) (_ : i < 4), W.cell? ⟨b, off + j * 4 + i, none⟩ = (ndeC l[j])[i]? from by
      obtain ⟨a, c, e, hc⟩ := HLST.out.later hB
      obtain ⟨b, off, rfl, _, hc2⟩ := hc (by intro h; rw [h] at h1l; simp at h1l)
      injection e with e1 _ _
      exact ⟨b, off, e1, hc2⟩)
    obtain ⟨b, off, ead, hcell⟩ := HARG.out w3 HB3.out
    injection ead with ead
    subst ead
    have HARG2 := Lib.hid (fun (W : World) (hB : Below w.heap.size w W) => show ∀ j (_ : j < l.length) (i : Nat) (_ : i < 4), W.cell? ⟨b, off + j * 4 + i, none⟩ = (ndeC l[j])[i]? from by
      obtain ⟨b', off', e, hc⟩ := HARG.out W hB
      cases e
      exact hc)
    obtain ⟨n0, hn0⟩ : ∃ n, (l[0]'h1l).num = n := ⟨_, rfl⟩
    obtain ⟨d0, hd0⟩ : ∃ d, (l[0]'h1l).dir = d := ⟨_, rfl⟩
    obtain ⟨k0, hk0⟩ : ∃ k, (l[0]'h1l).links = k := ⟨_, rfl⟩
    have q0 : w3.cell? ⟨b, off, none⟩ = some (.int .i64 n0) := by have h := hcell 0 h1l 0 (by omega); rw [show off + 0 * 4 + 0 = off by omega] at h; rw [← hn0]; exact h
    have q1 : w3.cell? ⟨b, off + 1, none⟩ = some (.bool d0) := by have h := hcell 0 h1l 1 (by omega); rw [show off + 0 * 4 + 1 = off + 1 by omega] at h; rw [← hd0]; exact h
    have q2 : w3.cell? ⟨b, off + 2, none⟩ = some (.int .i64 k0) := by have h := hcell 0 h1l 2 (by omega); rw [show off + 0 * 4 + 2 = off + 2 by omega] at h; rw [← hk0]; exact h
    have HHEAD := Lib.hid (show ∀ T, Good T → tolds T = l → n0 = 1 ∧ d0 = true ∧ k0 = 1 from fun T hT e => by
      obtain ⟨r, U, rfl, e1, e2, e3⟩ := good_head hT
      subst e
      exact ⟨by rw [← hn0]; exact e1, by rw [← hd0]; exact e2, by rw [← hk0]; exact e3⟩)
    have H1L := Lib.hid h1l
    have H60 := Lib.hid h60
    have HE0 := Lib.hid (show (l[0]'h1l).num = n0 ∧ (l[0]'h1l).dir = d0 ∧ (l[0]'h1l).links = k0 from ⟨hn0, hd0, hk0⟩)
    clear h0 h60 hcell hn0 hd0 hk0 HARG
    by_cases hn1 : n0 = 1
    · have e1 : (n0 == 1) = true := by simp [hn1]
      cases d0 with
      | true =>
        by_cases hk1 : k0 = 1
        · have e2 : (k0 == 1) = true := by simp [hk1]
          subst hn1; subst hk1
          go_wp2
          clear q0 q1 q2 e1 e2 hz hz2
          go_loopw [5] (fun i wr => ∃ (j : Nat) (T : List Nod) (last : Int), j ≤ l.length ∧ i = .int .i64 j ∧ Hid (T.length = j) ∧ Hid (Looked l T last) ∧ Hid (Below w3.heap.size w3 wr)) (fun i _ => l.length - (intOf i).toNat)
          case atStart => exact ⟨0, [], 0, Nat.zero_le _, rfl, Lib.hid rfl, Lib.hid (.none l), Lib.hid (Below.refl _ _)⟩
          case round =>
            obtain ⟨j, T, last, hj, rfl, HTL, HLK, HB⟩ := hrel
            have HBW := Lib.hid (HB3.out.trans (HB.out.mono HB3.out.size))
            by_cases hlt : j < l.length
            · have hji : (j : Int) < (l.length : Int) := by omega
              have HW2 := Lib.hid (show RowKit.wrap64 ((j : Int) + 1) = (j : Int) + 1 from w64_cnt (by omega) (by have := H60.out; omega))
              obtain ⟨r, hr⟩ : ∃ r, l[j] = r := ⟨_, rfl⟩
              have hTl : T.length < l.length := by rw [HTL.out]; exact hlt
              have hrT : l[T.length] = r := by
                have h := HTL.out
                subst h
                exact hr
              have HNOF := Lib.hid (fun (hn : (∀ x, ¬ NodOf r x) ∨ r.num ≤ last ∨ 65535 < r.num) => HLK.out.no hTl (by rw [hrT]; exact hn))
              have HMORE := Lib.hid (fun y (hy : NodOf r y) (h1 : ¬ y.num ≤ last) (h2 : y.num ≤ 65535) => HLK.out.more hTl (y := y) (by rw [hrT]; exact hy) h1 h2)
              have HOD := Lib.hid (show r.data.size ≤ 281474976710656 from by rw [← hr]; exact (HOK.out l[j] (List.getElem_mem hlt)).2.2)
              have HCELL := Lib.hid (fun (W : World) (hB : Below w.heap.size w W) => show W.cell? ⟨b, off + j * 4, none⟩ = some (.int .i64 r.num) ∧ W.cell? ⟨b, off + j * 4 + 1, none⟩ = some (.bool r.dir) ∧ W.cell? ⟨b, off + j * 4 + 3, none⟩ = some (.string r.data) from by
                have h := HARG2.out W hB j hlt
                rw [hr] at h
                exact ⟨h 0 (by omega), h 1 (by omega), h 3 (by omega)⟩)
              have HPREV := Lib.hid (show (j = 0 ∧ r.num = 1 ∧ last = 0) ∨ ∃ jj : Nat, j = jj + 1 ∧ wr.cell? ⟨b, off + jj * 4, none⟩ = some (.int .i64 last) from by
                rcases HLK.out.prev with ⟨h1, h2⟩ | ⟨jj, hjj, h1, h2⟩
                · have h3 := HTL.out
                  rw [h1] at h3
                  have h4 : j = 0 := h3.symm
                  subst h4
                  exact .inl ⟨rfl, by rw [← hr]; exact HE0.out.1, h2⟩
                · refine .inr ⟨jj, HTL.out.symm.trans h1, ?_⟩
                  rw [h2]
                  exact HARG2.out wr HBW.out jj hjj 0 (by omega))
              have hrn0 : 0 ≤ (j : Int) := by omega
              obtain ⟨fb, hfb⟩ : ∃ fb : Bool, decide (r.num ≤ last ∨ 65535 < r.num ∨ 16384 < r.data.size) = fb := ⟨_, rfl⟩
              have HFB := Lib.hid hfb
              have HHLT := Lib.hid hlt
              clear hr hTl hrT hfb hrn0
              go_upto_region 7 with fail
              go_cut [82] from 50 to 81 (fun x wx => ∃ wy, wy = wx ∧ x = .bool fb ∧ Hid (Below wr.heap.size wr wy))
              case first =>
                obtain ⟨c0, c1, c3⟩ := HCELL.out wr HBW.out
                have hds : (r.data.size : Int) ≤ 281474976710656 := by have := HOD.out; omega
                rcases HPREV.out with ⟨h0j, hn1, hl0⟩ | ⟨jj, hjj, cp⟩
                · subst h0j
                  simp only [Nat.zero_mul, Nat.add_zero] at c0 c1 c3
                  rw [hn1] at c0
                  by_cases hs : 16384 < r.data.size
                  · as_aux_lemma =>
                    obtain rfl : fb = true := by rw [← HFB.out]; exact decide_eq_true (.inr (.inr hs))
                    have hsi : (16384 : Int) < (r.data.size : Int) := by omega
                    clear hn1 hl0 hs hds
                    go_wp2_with fail
                    refine wp_region_held_drew (S := fun w' => w'.cell? ⟨b, off, none⟩ = some (.int .i64 1) ∧ w'.cell? ⟨b, off + 3, none⟩ = some (.string r.data)) (by kernel_rfl) ⟨c0, c3⟩ (fun hHeld => ?_)
                    refine take_oneH 50 (i := 0) (v := .int .i64 0) rfl rfl (by kernel_rfl) (by kernel_rfl) (by kernel_rfl) (fun _ _ _ h => h) (Or.inl ⟨by kernel_rfl, fun w hSw => by (go_simp)⟩) (by assumption) ?_
                    simp only [Act.put, List.setIfInBounds_toArray, List.set_cons_zero, List.set_cons_succ]
                    refine take_oneH 51 (i := 1) (v := .bool false) rfl rfl (by kernel_rfl) (by kernel_rfl) (by kernel_rfl) (fun _ _ _ h => h) (Or.inl ⟨by kernel_rfl, fun w hSw => by (go_simp)⟩) (by assumption) ?_
                    simp only [Act.put, List.setIfInBounds_toArray, List.set_cons_zero, List.set_cons_succ]
                    refine take_oneH 52 (i := 2) (v := .bool false) rfl rfl (by kernel_rfl) (by kernel_rfl) (by kernel_rfl) (fun _ _ _ h => h) (Or.inl ⟨by kernel_rfl, fun w hSw => by (go_simp)⟩) (by assumption) ?_
                    simp only [Act.put, List.setIfInBounds_toArray, List.set_cons_zero, List.set_cons_succ]
                    refine take_oneH 53 (i := 3) (v := undef) rfl rfl (by kernel_rfl) (by kernel_rfl) (by kernel_rfl) (fun _ _ _ h => h) (Or.inr ⟨by kernel_rfl, rfl⟩) (by assumption) ?_
                    simp only [Act.put, List.setIfInBounds_toArray, List.set_cons_zero, List.set_cons_succ]
                    refine take_oneH 54 (i := 4) (v := undef) rfl rfl (by kernel_rfl) (by kernel_rfl) (by kernel_rfl) (fun _ _ _ h => h) (Or.inr ⟨by kernel_rfl, rfl⟩) (by assumption) ?_
                    simp only [Act.put, List.setIfInBounds_toArray, List.set_cons_zero, List.set_cons_succ]
                    refine take_oneH 55 (i := 5) (v := undef) rfl rfl (by kernel_rfl) (by kernel_rfl) (by kernel_rfl) (fun _ _ _ h => h) (Or.inr ⟨by kernel_rfl, rfl⟩) (by assumption) ?_
                    simp only [Act.put, List.setIfInBounds_toArray, List.set_cons_zero, List.set_cons_succ]
                    refine take_oneH 56 (i := 6) (v := undef) rfl rfl (by kernel_rfl) (by kernel_rfl) (by kernel_rfl) (fun _ _ _ h => h) (Or.inr ⟨by kernel_rfl, rfl⟩) (by assumption) ?_
                    simp only [Act.put, List.setIfInBounds_toArray, List.set_cons_zero, List.set_cons_succ]
                    refine take_oneH 57 (i := 7) (v := undef) rfl rfl (by kernel_rfl) (by kernel_rfl) (by kernel_rfl) (fun _ _ _ h => h) (Or.inr ⟨by kernel_rfl, rfl⟩) (by assumption) ?_
                    simp only [Act.put, List.setIfInBounds_toArray, List.set_cons_zero, List.set_cons_succ]
                    refine take_oneH 58 (i := 8) (v := undef) rfl rfl (by kernel_rfl) (by kernel_rfl) (by kernel_rfl) (fun _ _ _ h => h) (Or.inr ⟨by kernel_rfl, rfl⟩) (by assumption) ?_
                    simp only [Act.put, List.setIfInBounds_toArray, List.set_cons_zero, List.set_cons_succ]
                    refine take_oneH 59 (i := 9) (v := undef) rfl rfl (by kernel_rfl) (by kernel_rfl) (by kernel_rfl) (fun _ _ _ h => h) (Or.inr ⟨by kernel_rfl, rfl⟩) (by assumption) ?_
                    simp only [Act.put, List.setIfInBounds_toArray, List.set_cons_zero, List.set_cons_succ]
                    refine take_oneH 60 (i := 10) (v := undef) rfl rfl (by kernel_rfl) (by kernel_rfl) (by kernel_rfl) (fun _ _ _ h => h) (Or.inr ⟨by kernel_rfl, rfl⟩) (by assumption) ?_
                    simp only [Act.put, List.setIfInBounds_toArray, List.set_cons_zero, List.set_cons_succ]
                    refine take_oneH 61 (i := 11) (v := undef) rfl rfl (by kernel_rfl) (by kernel_rfl) (by kernel_rfl) (fun _ _ _ h => h) (Or.inr ⟨by kernel_rfl, rfl⟩) (by assumption) ?_
                    simp only [Act.put, List.setIfInBounds_toArray, List.set_cons_zero, List.set_cons_succ]
                    refine take_oneH 62 (i := 12) (v := undef) rfl rfl (by kernel_rfl) (by kernel_rfl) (by kernel_rfl) (fun _ _ _ h => h) (Or.inr ⟨by kernel_rfl, rfl⟩) (by assumption) ?_
                    simp only [Act.put, List.setIfInBounds_toArray, List.set_cons_zero, List.set_cons_succ]
                    refine take_oneH 63 (i := 13) (v := undef) rfl rfl (by kernel_rfl) (by kernel_rfl) (by kernel_rfl) (fun _ _ _ h => h) (Or.inr ⟨by kernel_rfl, rfl⟩) (by assumption) ?_
                    simp only [Act.put, List.setIfInBounds_toArray, List.set_cons_zero, List.set_cons_succ]
                    refine take_oneH 64 (i := 14) (v := undef) rfl rfl (by kernel_rfl) (by kernel_rfl) (by kernel_rfl) (fun _ _ _ h => h) (Or.inr ⟨by kernel_rfl, rfl⟩) (by assumption) ?_
                    simp only [Act.put, List.setIfInBounds_toArray, List.set_cons_zero, List.set_cons_succ]
                    refine take_oneH 65 (i := 15) (v := .bool false) rfl rfl (by kernel_rfl) (by kernel_rfl) (by kernel_rfl) (fun _ _ _ h => h) (Or.inl ⟨by kernel_rfl, fun w hSw => by (go_simp)⟩) (by assumption) ?_
                    simp only [Act.put, List.setIfInBounds_toArray, List.set_cons_zero, List.set_cons_succ]
                    refine take_oneH 66 (i := 16) (v := .bool false) rfl rfl (by kernel_rfl) (by kernel_rfl) (by kernel_rfl) (fun _ _ _ h => h) (Or.inl ⟨by kernel_rfl, fun w hSw => by (go_simp)⟩) (by assumption) ?_
                    simp only [Act.put, List.setIfInBounds_toArray, List.set_cons_zero, List.set_cons_succ]
                    refine take_oneH 67 (i := 17) (v := .slice (some ⟨b, off, none⟩) l.length cap) rfl rfl (by kernel_rfl) (by kernel_rfl) (by kernel_rfl) (fun _ _ _ h => h) (Or.inl ⟨by kernel_rfl, fun w hSw => by (go_simp)⟩) (by assumption) ?_
                    simp only [Act.put, List.setIfInBounds_toArray, List.set_cons_zero, List.set_cons_succ]
                    refine take_oneH 68 (i := 18) (v := .int .i64 0) rfl rfl (by kernel_rfl) (by kernel_rfl) (by kernel_rfl) (fun _ _ _ h => h) (Or.inl ⟨by kernel_rfl, fun w hSw => by (go_simp)⟩) (by assumption) ?_
                    simp only [Act.put, List.setIfInBounds_toArray, List.set_cons_zero, List.set_cons_succ]
                    refine take_oneH 69 (i := 19) (v := .pointer (some ⟨b, off, none⟩)) rfl rfl (by kernel_rfl) (by kernel_rfl) (by kernel_rfl) (fun _ _ _ h => h) (Or.inl ⟨by kernel_rfl, fun w hSw => by (go_simp)⟩) (by assumption) ?_
                    simp only [Act.put, List.setIfInBounds_toArray, List.set_cons_zero, List.set_cons_succ]
                    refine take_oneH 70 (i := 20) (v := .pointer (some ⟨b, off, none⟩)) rfl rfl (by kernel_rfl) (by kernel_rfl) (by kernel_rfl) (fun _ _ _ h => h) (Or.inl ⟨by kernel_rfl, fun w hSw => by (go_simp)⟩) (by assumption) ?_
                    simp only [Act.put, List.setIfInBounds_toArray, List.set_cons_zero, List.set_cons_succ]
                    refine take_oneH 71 (i := 21) (v := .int .i64 1) rfl rfl (by kernel_rfl) (by kernel_rfl) (by kernel_rfl) (fun _ _ _ h => h) (Or.inl ⟨by kernel_rfl, fun w hSw => by (go_simp)⟩) (by assumption) ?_
                    simp only [Act.put, List.setIfInBounds_toArray, List.set_cons_zero, List.set_cons_succ]
                    refine take_oneH 72 (i := 22) (v := .bool false) rfl rfl (by kernel_rfl) (by kernel_rfl) (by kernel_rfl) (fun _ _ _ h => h) (Or.inl ⟨by kernel_rfl, fun w hSw => by (go_simp)⟩) (by assumption) ?_
                    simp only [Act.put, List.setIfInBounds_toArray, List.set_cons_zero, List.set_cons_succ]
                    refine take_oneH 73 (i := 23) (v := .bool false) rfl rfl (by kernel_rfl) (by kernel_rfl) (by kernel_rfl) (fun _ _ _ h => h) (Or.inl ⟨by kernel_rfl, fun w hSw => by (go_simp)⟩) (by assumption) ?_
                    simp only [Act.put, List.setIfInBounds_toArray, List.set_cons_zero, List.set_cons_succ]
                    refine take_oneH 74 (i := 24) (v := .bool false) rfl rfl (by kernel_rfl) (by kernel_rfl) (by kernel_rfl) (fun _ _ _ h => h) (Or.inl ⟨by kernel_rfl, fun w hSw => by (go_simp)⟩) (by assumption) ?_
                    simp only [Act.put, List.setIfInBounds_toArray, List.set_cons_zero, List.set_cons_succ]
                    refine take_oneH 75 (i := 25) (v := .slice (some ⟨b, off, none⟩) l.length cap) rfl rfl (by kernel_rfl) (by kernel_rfl) (by kernel_rfl) (fun _ _ _ h => h) (Or.inl ⟨by kernel_rfl, fun w hSw => by (go_simp)⟩) (by assumption) ?_
                    simp only [Act.put, List.setIfInBounds_toArray, List.set_cons_zero, List.set_cons_succ]
                    refine take_oneH 76 (i := 26) (v := .int .i64 0) rfl rfl (by kernel_rfl) (by kernel_rfl) (by kernel_rfl) (fun _ _ _ h => h) (Or.inl ⟨by kernel_rfl, fun w hSw => by (go_simp)⟩) (by assumption) ?_
                    simp only [Act.put, List.setIfInBounds_toArray, List.set_cons_zero, List.set_cons_succ]
                    refine take_oneH 77 (i := 27) (v := .pointer (some ⟨b, off, none⟩)) rfl rfl (by kernel_rfl) (by kernel_rfl) (by kernel_rfl) (fun _ _ _ h => h) (Or.inl ⟨by kernel_rfl, fun w hSw => by (go_simp)⟩) (by assumption) ?_
                    simp only [Act.put, List.setIfInBounds_toArray, List.set_cons_zero, List.set_cons_succ]
                    refine take_oneH 78 (i := 28) (v := .pointer (some ⟨b, off + 3, none⟩)) rfl rfl (by kernel_rfl) (by kernel_rfl) (by kernel_rfl) (fun _ _ _ h => h) (Or.inl ⟨by kernel_rfl, fun w hSw => by (go_simp)⟩) (by assumption) ?_
                    simp only [Act.put, List.setIfInBounds_toArray, List.set_cons_zero, List.set_cons_succ]
                    refine take_oneH 79 (i := 29) (v := .string r.data) rfl rfl (by kernel_rfl) (by kernel_rfl) (by kernel_rfl) (fun _ _ _ h => h) (Or.inl ⟨by kernel_rfl, fun w hSw => by (go_simp)⟩) (by assumption) ?_
                    simp only [Act.put, List.setIfInBounds_toArray, List.set_cons_zero, List.set_cons_succ]
                    refine take_oneH 80 (i := 30) (v := .int .i64 (r.data.size : Int)) rfl rfl (by kernel_rfl) (by kernel_rfl) (by kernel_rfl) (fun _ _ _ h => h) (Or.inl ⟨by kernel_rfl, fun w hSw => by (go_simp)⟩) (by assumption) ?_
                    simp only [Act.put, List.setIfInBounds_toArray, List.set_cons_zero, List.set_cons_succ]
                    refine take_oneH 81 (i := 31) (v := .bool true) rfl rfl (by kernel_rfl) (by kernel_rfl) (by kernel_rfl) (fun _ _ _ h => h) (Or.inl ⟨by kernel_rfl, fun w hSw => by (go_simp)⟩) (by assumption) ?_
                    simp only [Act.put, List.setIfInBounds_toArray, List.set_cons_zero, List.set_cons_succ]
                    refine take_oneH 82 (i := 32) (v := .bool true) rfl rfl (by kernel_rfl) (by kernel_rfl) (by kernel_rfl) (fun _ _ _ h => h) (Or.inl ⟨by kernel_rfl, fun w hSw => by (go_simp)⟩) (by assumption) ?_
                    simp only [Act.put, List.setIfInBounds_toArray, List.set_cons_zero, List.set_cons_succ]
                    refine wpAnyH_done (by kernel_rfl) ?_ _
                    clear hHeld c0 c3
                    go_wp2
                    go_meet
                    exact ⟨_, rfl, rfl, Lib.hid (below_drewN (Below.refl _ _) _)⟩
                  · as_aux_lemma =>
                    obtain rfl : fb = false := by rw [← HFB.out]; exact decide_eq_false (fun h => by rcases h with h | h | h <;> omega)
                    have hsi : ¬ (16384 : Int) < (r.data.size : Int) := by omega
                    clear hn1 hl0 hs hds
                    go_wp2_with fail
                    refine wp_region_held_drew (S := fun w' => w'.cell? ⟨b, off, none⟩ = some (.int .i64 1) ∧ w'.cell? ⟨b, off + 3, none⟩ = some (.string r.data)) (by kernel_rfl) ⟨c0, c3⟩ (fun hHeld => ?_)
                    refine take_oneH 50 (i := 0) (v := .int .i64 0) rfl rfl (by kernel_rfl) (by kernel_rfl) (by kernel_rfl) (fun _ _ _ h => h) (Or.inl ⟨by kernel_rfl, fun w hSw => by (go_simp)⟩) (by assumption) ?_
                    simp only [Act.put, List.setIfInBounds_toArray, List.set_cons_zero, List.set_cons_succ]
                    refine take_oneH 51 (i := 1) (v := .bool false) rfl rfl (by kernel_rfl) (by kernel_rfl) (by kernel_rfl) (fun _ _ _ h => h) (Or.inl ⟨by kernel_rfl, fun w hSw => by (go_simp)⟩) (by assumption) ?_
                    simp only [Act.put, List.setIfInBounds_toArray, List.set_cons_zero, List.set_cons_succ]
                    refine take_oneH 52 (i := 2) (v := .bool false) rfl rfl (by kernel_rfl) (by kernel_rfl) (by kernel_rfl) (fun _ _ _ h => h) (Or.inl ⟨by kernel_rfl, fun w hSw => by (go_simp)⟩) (by assumption) ?_
                    simp only [Act.put, List.setIfInBounds_toArray, List.set_cons_zero, List.set_cons_succ]
                    refine take_oneH 53 (i := 3) (v := undef) rfl rfl (by kernel_rfl) (by kernel_rfl) (by kernel_rfl) (fun _ _ _ h => h) (Or.inr ⟨by kernel_rfl, rfl⟩) (by assumption) ?_
                    simp only [Act.put, List.setIfInBounds_toArray, List.set_cons_zero, List.set_cons_succ]
                    refine take_oneH 54 (i := 4) (v := undef) rfl rfl (by kernel_rfl) (by kernel_rfl) (by kernel_rfl) (fun _ _ _ h => h) (Or.inr ⟨by kernel_rfl, rfl⟩) (by assumption) ?_
                    simp only [Act.put, List.setIfInBounds_toArray, List.set_cons_zero, List.set_cons_succ]
                    refine take_oneH 55 (i := 5) (v := undef) rfl rfl (by kernel_rfl) (by kernel_rfl) (by kernel_rfl) (fun _ _ _ h => h) (Or.inr ⟨by kernel_rfl, rfl⟩) (by assumption) ?_
                    simp only [Act.put, List.setIfInBounds_toArray, List.set_cons_zero, List.set_cons_succ]
                    refine take_oneH 56 (i := 6) (v := undef) rfl rfl (by kernel_rfl) (by kernel_rfl) (by kernel_rfl) (fun _ _ _ h => h) (Or.inr ⟨by kernel_rfl, rfl⟩) (by assumption) ?_
                    simp only [Act.put, List.setIfInBounds_toArray, List.set_cons_zero, List.set_cons_succ]
                    refine take_oneH 57 (i := 7) (v := undef) rfl rfl (by kernel_rfl) (by kernel_rfl) (by kernel_rfl) (fun _ _ _ h => h) (Or.inr ⟨by kernel_rfl, rfl⟩) (by assumption) ?_
                    simp only [Act.put, List.setIfInBounds_toArray, List.set_cons_zero, List.set_cons_succ]
                    refine take_oneH 58 (i := 8) (v := undef) rfl rfl (by kernel_rfl) (by kernel_rfl) (by kernel_rfl) (fun _ _ _ h => h) (Or.inr ⟨by kernel_rfl, rfl⟩) (by assumption) ?_
                    simp only [Act.put, List.setIfInBounds_toArray, List.set_cons_zero, List.set_cons_succ]
                    refine take_oneH 59 (i := 9) (v := undef) rfl rfl (by kernel_rfl) (by kernel_rfl) (by kernel_rfl) (fun _ _ _ h => h) (Or.inr ⟨by kernel_rfl, rfl⟩) (by assumption) ?_
                    simp only [Act.put, List.setIfInBounds_toArray, List.set_cons_zero, List.set_cons_succ]
                    refine take_oneH 60 (i := 10) (v := undef) rfl rfl (by kernel_rfl) (by kernel_rfl) (by kernel_rfl) (fun _ _ _ h => h) (Or.inr ⟨by kernel_rfl, rfl⟩) (by assumption) ?_
                    simp only [Act.put, List.setIfInBounds_toArray, List.set_cons_zero, List.set_cons_succ]
                    refine take_oneH 61 (i := 11) (v := undef) rfl rfl (by kernel_rfl) (by kernel_rfl) (by kernel_rfl) (fun _ _ _ h => h) (Or.inr ⟨by kernel_rfl, rfl⟩) (by assumption) ?_
                    simp only [Act.put, List.setIfInBounds_toArray, List.set_cons_zero, List.set_cons_succ]
                    refine take_oneH 62 (i := 12) (v := undef) rfl rfl (by kernel_rfl) (by kernel_rfl) (by kernel_rfl) (fun _ _ _ h => h) (Or.inr ⟨by kernel_rfl, rfl⟩) (by assumption) ?_
                    simp only [Act.put, List.setIfInBounds_toArray, List.set_cons_zero, List.set_cons_succ]
                    refine take_oneH 63 (i := 13) (v := undef) rfl rfl (by kernel_rfl) (by kernel_rfl) (by kernel_rfl) (fun _ _ _ h => h) (Or.inr ⟨by kernel_rfl, rfl⟩) (by assumption) ?_
                    simp only [Act.put, List.setIfInBounds_toArray, List.set_cons_zero, List.set_cons_succ]
                    refine take_oneH 64 (i := 14) (v := undef) rfl rfl (by kernel_rfl) (by kernel_rfl) (by kernel_rfl) (fun _ _ _ h => h) (Or.inr ⟨by kernel_rfl, rfl⟩) (by assumption) ?_
                    simp only [Act.put, List.setIfInBounds_toArray, List.set_cons_zero, List.set_cons_succ]
                    refine take_oneH 65 (i := 15) (v := .bool false) rfl rfl (by kernel_rfl) (by kernel_rfl) (by kernel_rfl) (fun _ _ _ h => h) (Or.inl ⟨by kernel_rfl, fun w hSw => by (go_simp)⟩) (by assumption) ?_
                    simp only [Act.put, List.setIfInBounds_toArray, List.set_cons_zero, List.set_cons_succ]
                    refine take_oneH 66 (i := 16) (v := .bool false) rfl rfl (by kernel_rfl) (by kernel_rfl) (by kernel_rfl) (fun _ _ _ h => h) (Or.inl ⟨by kernel_rfl, fun w hSw => by (go_simp)⟩) (by assumption) ?_
                    simp only [Act.put, List.setIfInBounds_toArray, List.set_cons_zero, List.set_cons_succ]
                    refine take_oneH 67 (i := 17) (v := .slice (some ⟨b, off, none⟩) l.length cap) rfl rfl (by kernel_rfl) (by kernel_rfl) (by kernel_rfl) (fun _ _ _ h => h) (Or.inl ⟨by kernel_rfl, fun w hSw => by (go_simp)⟩) (by assumption) ?_
                    simp only [Act.put, List.setIfInBounds_toArray, List.set_cons_zero, List.set_cons_succ]
                    refine take_oneH 68 (i := 18) (v := .int .i64 0) rfl rfl (by kernel_rfl) (by kernel_rfl) (by kernel_rfl) (fun _ _ _ h => h) (Or.inl ⟨by kernel_rfl, fun w hSw => by (go_simp)⟩) (by assumption) ?_
                    simp only [Act.put, List.setIfInBounds_toArray, List.set_cons_zero, List.set_cons_succ]
                    refine take_oneH 69 (i := 19) (v := .pointer (some ⟨b, off, none⟩)) rfl rfl (by kernel_rfl) (by kernel_rfl) (by kernel_rfl) (fun _ _ _ h => h) (Or.inl ⟨by kernel_rfl, fun w hSw => by (go_simp)⟩) (by assumption) ?_
                    simp only [Act.put, List.setIfInBounds_toArray, List.set_cons_zero, List.set_cons_succ]
                    refine take_oneH 70 (i := 20) (v := .pointer (some ⟨b, off, none⟩)) rfl rfl (by kernel_rfl) (by kernel_rfl) (by kernel_rfl) (fun _ _ _ h => h) (Or.inl ⟨by kernel_rfl, fun w hSw => by (go_simp)⟩) (by assumption) ?_
                    simp only [Act.put, List.setIfInBounds_toArray, List.set_cons_zero, List.set_cons_succ]
                    refine take_oneH 71 (i := 21) (v := .int .i64 1) rfl rfl (by kernel_rfl) (by kernel_rfl) (by kernel_rfl) (fun _ _ _ h => h) (Or.inl ⟨by kernel_rfl, fun w hSw => by (go_simp)⟩) (by assumption) ?_
                    simp only [Act.put, List.setIfInBounds_toArray, List.set_cons_zero, List.set_cons_succ]
                    refine take_oneH 72 (i := 22) (v := .bool false) rfl rfl (by kernel_rfl) (by kernel_rfl) (by kernel_rfl) (fun _ _ _ h => h) (Or.inl ⟨by kernel_rfl, fun w hSw => by (go_simp)⟩) (by assumption) ?_
                    simp only [Act.put, List.setIfInBounds_toArray, List.set_cons_zero, List.set_cons_succ]
                    refine take_oneH 73 (i := 23) (v := .bool false) rfl rfl (by kernel_rfl) (by kernel_rfl) (by kernel_rfl) (fun _ _ _ h => h) (Or.inl ⟨by kernel_rfl, fun w hSw => by (go_simp)⟩) (by assumption) ?_
                    simp only [Act.put, List.setIfInBounds_toArray, List.set_cons_zero, List.set_cons_succ]
                    refine take_oneH 74 (i := 24) (v := .bool false) rfl rfl (by kernel_rfl) (by kernel_rfl) (by kernel_rfl) (fun _ _ _ h => h) (Or.inl ⟨by kernel_rfl, fun w hSw => by (go_simp)⟩) (by assumption) ?_
                    simp only [Act.put, List.setIfInBounds_toArray, List.set_cons_zero, List.set_cons_succ]
                    refine take_oneH 75 (i := 25) (v := .slice (some ⟨b, off, none⟩) l.length cap) rfl rfl (by kernel_rfl) (by kernel_rfl) (by kernel_rfl) (fun _ _ _ h => h) (Or.inl ⟨by kernel_rfl, fun w hSw => by (go_simp)⟩) (by assumption) ?_
                    simp only [Act.put, List.setIfInBounds_toArray, List.set_cons_zero, List.set_cons_succ]
                    refine take_oneH 76 (i := 26) (v := .int .i64 0) rfl rfl (by kernel_rfl) (by kernel_rfl) (by kernel_rfl) (fun _ _ _ h => h) (Or.inl ⟨by kernel_rfl, fun w hSw => by (go_simp)⟩) (by assumption) ?_
                    simp only [Act.put, List.setIfInBounds_toArray, List.set_cons_zero, List.set_cons_succ]
                    refine take_oneH 77 (i := 27) (v := .pointer (some ⟨b, off, none⟩)) rfl rfl (by kernel_rfl) (by kernel_rfl) (by kernel_rfl) (fun _ _ _ h => h) (Or.inl ⟨by kernel_rfl, fun w hSw => by (go_simp)⟩) (by assumption) ?_
                    simp only [Act.put, List.setIfInBounds_toArray, List.set_cons_zero, List.set_cons_succ]
                    refine take_oneH 78 (i := 28) (v := .pointer (some ⟨b, off + 3, none⟩)) rfl rfl (by kernel_rfl) (by kernel_rfl) (by kernel_rfl) (fun _ _ _ h => h) (Or.inl ⟨by kernel_rfl, fun w hSw => by (go_simp)⟩) (by assumption) ?_
                    simp only [Act.put, List.setIfInBounds_toArray, List.set_cons_zero, List.set_cons_succ]
                    refine take_oneH 79 (i := 29) (v := .string r.data) rfl rfl (by kernel_rfl) (by kernel_rfl) (by kernel_rfl) (fun _ _ _ h => h) (Or.inl ⟨by kernel_rfl, fun w hSw => by (go_simp)⟩) (by assumption) ?_
                    simp only [Act.put, List.setIfInBounds_toArray, List.set_cons_zero, List.set_cons_succ]
                    refine take_oneH 80 (i := 30) (v := .int .i64 (r.data.size : Int)) rfl rfl (by kernel_rfl) (by kernel_rfl) (by kernel_rfl) (fun _ _ _ h => h) (Or.inl ⟨by kernel_rfl, fun w hSw => by (go_simp)⟩) (by assumption) ?_
                    simp only [Act.put, List.setIfInBounds_toArray, List.set_cons_zero, List.set_cons_succ]
                    refine take_oneH 81 (i := 31) (v := .bool false) rfl rfl (by kernel_rfl) (by kernel_rfl) (by kernel_rfl) (fun _ _ _ h => h) (Or.inl ⟨by kernel_rfl, fun w hSw => by (go_simp)⟩) (by assumption) ?_
                    simp only [Act.put, List.setIfInBounds_toArray, List.set_cons_zero, List.set_cons_succ]
                    refine take_oneH 82 (i := 32) (v := .bool false) rfl rfl (by kernel_rfl) (by kernel_rfl) (by kernel_rfl) (fun _ _ _ h => h) (Or.inl ⟨by kernel_rfl, fun w hSw => by (go_simp)⟩) (by assumption) ?_
                    simp only [Act.put, List.setIfInBounds_toArray, List.set_cons_zero, List.set_cons_succ]
                    refine wpAnyH_done (by kernel_rfl) ?_ _
                    clear hHeld c0 c3
                    go_wp2
                    go_meet
                    exact ⟨_, rfl, rfl, Lib.hid (below_drewN (Below.refl _ _) _)⟩
                · have hj1 : (0 : Int) < (j : Int) := by omega
                  have hj1n : 0 < j := by omega
                  have hjjl : (jj : Int) < (l.length : Int) := by omega
                  have hwk : IntKind.i64.wrap ((j : Int) - 1) = (jj : Int) := by rw [show (j : Int) - 1 = (jj : Int) by omega]; exact wrapI _ (by omega) (by have := HHLT.out; have := H60.out; omega)
                  have hjjn : jj < l.length := by omega
                  have hwj : RowKit.wrap64 ((j : Int) - 1) = (jj : Int) := by
                    rw [show (j : Int) - 1 = (jj : Int) by omega]
                    have := HHLT.out
                    have := H60.out
                    simp [RowKit.wrap64]; omega
                  by_cases h1 : r.num ≤ last
                  · as_aux_lemma =>
                    obtain rfl : fb = true := by rw [← HFB.out]; exact decide_eq_true (.inl h1)
                    clear hjj hds
                    go_wp2_with fail
                    refine wp_region_held_drew (S := fun w' => w'.cell? ⟨b, off + j * 4, none⟩ = some (.int .i64 r.num) ∧ w'.cell? ⟨b, off + j * 4 + 3, none⟩ = some (.string r.data) ∧ w'.cell? ⟨b, off + jj * 4, none⟩ = some (.int .i64 last)) (by kernel_rfl) ⟨c0, c3, cp⟩ (fun hHeld => ?_)
                    refine take_oneH 50 (i := 0) (v := .int .i64 ((j : Nat) : Int)) rfl rfl (by kernel_rfl) (by kernel_rfl) (by kernel_rfl) (fun _ _ _ h => h) (Or.inl ⟨by kernel_rfl, fun w hSw => by (go_simp)⟩) (by assumption) ?_
                    simp only [Act.put, List.setIfInBounds_toArray, List.set_cons_zero, List.set_cons_succ]
                    refine take_oneH 51 (i := 1) (v := .bool true) rfl rfl (by kernel_rfl) (by kernel_rfl) (by kernel_rfl) (fun _ _ _ h => h) (Or.inl ⟨by kernel_rfl, fun w hSw => by (go_simp)⟩) (by assumption) ?_
                    simp only [Act.put, List.setIfInBounds_toArray, List.set_cons_zero, List.set_cons_succ]
                    refine take_oneH 52 (i := 2) (v := .bool true) rfl rfl (by kernel_rfl) (by kernel_rfl) (by kernel_rfl) (fun _ _ _ h => h) (Or.inl ⟨by kernel_rfl, fun w hSw => by (go_simp)⟩) (by assumption) ?_
                    simp only [Act.put, List.setIfInBounds_toArray, List.set_cons_zero, List.set_cons_succ]
                    refine take_oneH 53 (i := 3) (v := .slice (some ⟨b, off, none⟩) l.length cap) rfl rfl (by kernel_rfl) (by kernel_rfl) (by kernel_rfl) (fun _ _ _ h => h) (Or.inl ⟨by kernel_rfl, fun w hSw => by (go_simp)⟩) (by assumption) ?_
                    simp only [Act.put, List.setIfInBounds_toArray, List.set_cons_zero, List.set_cons_succ]
                    refine take_oneH 54 (i := 4) (v := .int .i64 ((j : Nat) : Int)) rfl rfl (by kernel_rfl) (by kernel_rfl) (by kernel_rfl) (fun _ _ _ h => h) (Or.inl ⟨by kernel_rfl, fun w hSw => by (go_simp)⟩) (by assumption) ?_
                    simp only [Act.put, List.setIfInBounds_toArray, List.set_cons_zero, List.set_cons_succ]
                    refine take_oneH 55 (i := 5) (v := .pointer (some ⟨b, off + j * 4, none⟩)) rfl rfl (by kernel_rfl) (by kernel_rfl) (by kernel_rfl) (fun _ _ _ h => h) (Or.inl ⟨by kernel_rfl, fun w hSw => by (go_simp)⟩) (by assumption) ?_
                    simp only [Act.put, List.setIfInBounds_toArray, List.set_cons_zero, List.set_cons_succ]
                    refine take_oneH 56 (i := 6) (v := .pointer (some ⟨b, off + j * 4, none⟩)) rfl rfl (by kernel_rfl) (by kernel_rfl) (by kernel_rfl) (fun _ _ _ h => h) (Or.inl ⟨by kernel_rfl, fun w hSw => by (go_simp)⟩) (by assumption) ?_
                    simp only [Act.put, List.setIfInBounds_toArray, List.set_cons_zero, List.set_cons_succ]
                    refine take_oneH 57 (i := 7) (v := .int .i64 r.num) rfl rfl (by kernel_rfl) (by kernel_rfl) (by kernel_rfl) (fun _ _ _ h => h) (Or.inl ⟨by kernel_rfl, fun w hSw => by (go_simp)⟩) (by assumption) ?_
                    simp only [Act.put, List.setIfInBounds_toArray, List.set_cons_zero, List.set_cons_succ]
                    refine take_oneH 58 (i := 8) (v := .slice (some ⟨b, off, none⟩) l.length cap) rfl rfl (by kernel_rfl) (by kernel_rfl) (by kernel_rfl) (fun _ _ _ h => h) (Or.inl ⟨by kernel_rfl, fun w hSw => by (go_simp)⟩) (by assumption) ?_
                    simp only [Act.put, List.setIfInBounds_toArray, List.set_cons_zero, List.set_cons_succ]
                    refine take_oneH 59 (i := 9) (v := .int .i64 ((j : Nat) : Int)) rfl rfl (by kernel_rfl) (by kernel_rfl) (by kernel_rfl) (fun _ _ _ h => h) (Or.inl ⟨by kernel_rfl, fun w hSw => by (go_simp)⟩) (by assumption) ?_
                    simp only [Act.put, List.setIfInBounds_toArray, List.set_cons_zero, List.set_cons_succ]
                    refine take_oneH 60 (i := 10) (v := .int .i64 (jj : Int)) rfl rfl (by kernel_rfl) (by kernel_rfl) (by kernel_rfl) (fun _ _ _ h => h) (Or.inl ⟨by kernel_rfl, fun w hSw => by (go_simp)⟩) (by assumption) ?_
                    simp only [Act.put, List.setIfInBounds_toArray, List.set_cons_zero, List.set_cons_succ]
                    refine take_oneH 61 (i := 11) (v := .pointer (some ⟨b, off + jj * 4, none⟩)) rfl rfl (by kernel_rfl) (by kernel_rfl) (by kernel_rfl) (fun _ _ _ h => h) (Or.inl ⟨by kernel_rfl, fun w hSw => by (go_simp)⟩) (by assumption) ?_
                    simp only [Act.put, List.setIfInBounds_toArray, List.set_cons_zero, List.set_cons_succ]
                    refine take_oneH 62 (i := 12) (v := .pointer (some ⟨b, off + jj * 4, none⟩)) rfl rfl (by kernel_rfl) (by kernel_rfl) (by kernel_rfl) (fun _ _ _ h => h) (Or.inl ⟨by kernel_rfl, fun w hSw => by (go_simp)⟩) (by assumption) ?_
                    simp only [Act.put, List.setIfInBounds_toArray, List.set_cons_zero, List.set_cons_succ]
                    refine take_oneH 63 (i := 13) (v := .int .i64 last) rfl rfl (by kernel_rfl) (by kernel_rfl) (by kernel_rfl) (fun _ _ _ h => h) (Or.inl ⟨by kernel_rfl, fun w hSw => by (go_simp)⟩) (by assumption) ?_
                    simp only [Act.put, List.setIfInBounds_toArray, List.set_cons_zero, List.set_cons_succ]
                    refine take_oneH 64 (i := 14) (v := .bool true) rfl rfl (by kernel_rfl) (by kernel_rfl) (by kernel_rfl) (fun _ _ _ h => h) (Or.inl ⟨by kernel_rfl, fun w hSw => by (go_simp)⟩) (by assumption) ?_
                    simp only [Act.put, List.setIfInBounds_toArray, List.set_cons_zero, List.set_cons_succ]
                    refine take_oneH 65 (i := 15) (v := .bool true) rfl rfl (by kernel_rfl) (by kernel_rfl) (by kernel_rfl) (fun _ _ _ h => h) (Or.inl ⟨by kernel_rfl, fun w hSw => by (go_simp)⟩) (by assumption) ?_
                    simp only [Act.put, List.setIfInBounds_toArray, List.set_cons_zero, List.set_cons_succ]
                    refine take_oneH 66 (i := 16) (v := .bool true) rfl rfl (by kernel_rfl) (by kernel_rfl) (by kernel_rfl) (fun _ _ _ h => h) (Or.inl ⟨by kernel_rfl, fun w hSw => by (go_simp)⟩) (by assumption) ?_
                    simp only [Act.put, List.setIfInBounds_toArray, List.set_cons_zero, List.set_cons_succ]
                    refine take_oneH 67 (i := 17) (v := undef) rfl rfl (by kernel_rfl) (by kernel_rfl) (by kernel_rfl) (fun _ _ _ h => h) (Or.inr ⟨by kernel_rfl, rfl⟩) (by assumption) ?_
                    simp only [Act.put, List.setIfInBounds_toArray, List.set_cons_zero, List.set_cons_succ]
                    refine take_oneH 68 (i := 18) (v := undef) rfl rfl (by kernel_rfl) (by kernel_rfl) (by kernel_rfl) (fun _ _ _ h => h) (Or.inr ⟨by kernel_rfl, rfl⟩) (by assumption) ?_
                    simp only [Act.put, List.setIfInBounds_toArray, List.set_cons_zero, List.set_cons_succ]
                    refine take_oneH 69 (i := 19) (v := undef) rfl rfl (by kernel_rfl) (by kernel_rfl) (by kernel_rfl) (fun _ _ _ h => h) (Or.inr ⟨by kernel_rfl, rfl⟩) (by assumption) ?_
                    simp only [Act.put, List.setIfInBounds_toArray, List.set_cons_zero, List.set_cons_succ]
                    refine take_oneH 70 (i := 20) (v := undef) rfl rfl (by kernel_rfl) (by kernel_rfl) (by kernel_rfl) (fun _ _ _ h => h) (Or.inr ⟨by kernel_rfl, rfl⟩) (by assumption) ?_
                    simp only [Act.put, List.setIfInBounds_toArray, List.set_cons_zero, List.set_cons_succ]
                    refine take_oneH 71 (i := 21) (v := undef) rfl rfl (by kernel_rfl) (by kernel_rfl) (by kernel_rfl) (fun _ _ _ h => h) (Or.inr ⟨by kernel_rfl, rfl⟩) (by assumption) ?_
                    simp only [Act.put, List.setIfInBounds_toArray, List.set_cons_zero, List.set_cons_succ]
                    refine take_oneH 72 (i := 22) (v := undef) rfl rfl (by kernel_rfl) (by kernel_rfl) (by kernel_rfl) (fun _ _ _ h => h) (Or.inr ⟨by kernel_rfl, rfl⟩) (by assumption) ?_
                    simp only [Act.put, List.setIfInBounds_toArray, List.set_cons_zero, List.set_cons_succ]
                    refine take_oneH 73 (i := 23) (v := .bool true) rfl rfl (by kernel_rfl) (by kernel_rfl) (by kernel_rfl) (fun _ _ _ h => h) (Or.inl ⟨by kernel_rfl, fun w hSw => by (go_simp)⟩) (by assumption) ?_
                    simp only [Act.put, List.setIfInBounds_toArray, List.set_cons_zero, List.set_cons_succ]
                    refine take_oneH 74 (i := 24) (v := .bool true) rfl rfl (by kernel_rfl) (by kernel_rfl) (by kernel_rfl) (fun _ _ _ h => h) (Or.inl ⟨by kernel_rfl, fun w hSw => by (go_simp)⟩) (by assumption) ?_
                    simp only [Act.put, List.setIfInBounds_toArray, List.set_cons_zero, List.set_cons_succ]
                    refine take_oneH 75 (i := 25) (v := undef) rfl rfl (by kernel_rfl) (by kernel_rfl) (by kernel_rfl) (fun _ _ _ h => h) (Or.inr ⟨by kernel_rfl, rfl⟩) (by assumption) ?_
                    simp only [Act.put, List.setIfInBounds_toArray, List.set_cons_zero, List.set_cons_succ]
                    refine take_oneH 76 (i := 26) (v := undef) rfl rfl (by kernel_rfl) (by kernel_rfl) (by kernel_rfl) (fun _ _ _ h => h) (Or.inr ⟨by kernel_rfl, rfl⟩) (by assumption) ?_
                    simp only [Act.put, List.setIfInBounds_toArray, List.set_cons_zero, List.set_cons_succ]
                    refine take_oneH 77 (i := 27) (v := undef) rfl rfl (by kernel_rfl) (by kernel_rfl) (by kernel_rfl) (fun _ _ _ h => h) (Or.inr ⟨by kernel_rfl, rfl⟩) (by assumption) ?_
                    simp only [Act.put, List.setIfInBounds_toArray, List.set_cons_zero, List.set_cons_succ]
                    refine take_oneH 78 (i := 28) (v := undef) rfl rfl (by kernel_rfl) (by kernel_rfl) (by kernel_rfl) (fun _ _ _ h => h) (Or.inr ⟨by kernel_rfl, rfl⟩) (by assumption) ?_
                    simp only [Act.put, List.setIfInBounds_toArray, List.set_cons_zero, List.set_cons_succ]
                    refine take_oneH 79 (i := 29) (v := undef) rfl rfl (by kernel_rfl) (by kernel_rfl) (by kernel_rfl) (fun _ _ _ h => h) (Or.inr ⟨by kernel_rfl, rfl⟩) (by assumption) ?_
                    simp only [Act.put, List.setIfInBounds_toArray, List.set_cons_zero, List.set_cons_succ]
                    refine take_oneH 80 (i := 30) (v := undef) rfl rfl (by kernel_rfl) (by kernel_rfl) (by kernel_rfl) (fun _ _ _ h => h) (Or.inr ⟨by kernel_rfl, rfl⟩) (by assumption) ?_
                    simp only [Act.put, List.setIfInBounds_toArray, List.set_cons_zero, List.set_cons_succ]
                    refine take_oneH 81 (i := 31) (v := undef) rfl rfl (by kernel_rfl) (by kernel_rfl) (by kernel_rfl) (fun _ _ _ h => h) (Or.inr ⟨by kernel_rfl, rfl⟩) (by assumption) ?_
                    simp only [Act.put, List.setIfInBounds_toArray, List.set_cons_zero, List.set_cons_succ]
                    refine take_oneH 82 (i := 32) (v := .bool true) rfl rfl (by kernel_rfl) (by kernel_rfl) (by kernel_rfl) (fun _ _ _ h => h) (Or.inl ⟨by kernel_rfl, fun w hSw => by (go_simp)⟩) (by assumption) ?_
                    simp only [Act.put, List.setIfInBounds_toArray, List.set_cons_zero, List.set_cons_succ]
                    refine wpAnyH_done (by kernel_rfl) ?_ _
                    clear hHeld c0 c3 cp
                    go_wp2
                    go_meet
                    exact ⟨_, rfl, rfl, Lib.hid (below_drewN (Below.refl _ _) _)⟩
                  by_cases h2 : 65535 < r.num
                  · as_aux_lemma =>
                    obtain rfl : fb = true := by rw [← HFB.out]; exact decide_eq_true (.inr (.inl h2))
                    clear hjj hds
                    go_wp2_with fail
                    refine wp_region_held_drew (S := fun w' => w'.cell? ⟨b, off + j * 4, none⟩ = some (.int .i64 r.num) ∧ w'.cell? ⟨b, off + j * 4 + 3, none⟩ = some (.string r.data) ∧ w'.cell? ⟨b, off + jj * 4, none⟩ = some (.int .i64 last)) (by kernel_rfl) ⟨c0, c3, cp⟩ (fun hHeld => ?_)
                    refine take_oneH 50 (i := 0) (v := .int .i64 ((j : Nat) : Int)) rfl rfl (by kernel_rfl) (by kernel_rfl) (by kernel_rfl) (fun _ _ _ h => h) (Or.inl ⟨by kernel_rfl, fun w hSw => by (go_simp)⟩) (by assumption) ?_
                    simp only [Act.put, List.setIfInBounds_toArray, List.set_cons_zero, List.set_cons_succ]
                    refine take_oneH 51 (i := 1) (v := .bool true) rfl rfl (by kernel_rfl) (by kernel_rfl) (by kernel_rfl) (fun _ _ _ h => h) (Or.inl ⟨by kernel_rfl, fun w hSw => by (go_simp)⟩) (by assumption) ?_
                    simp only [Act.put, List.setIfInBounds_toArray, List.set_cons_zero, List.set_cons_succ]
                    refine take_oneH 52 (i := 2) (v := .bool true) rfl rfl (by kernel_rfl) (by kernel_rfl) (by kernel_rfl) (fun _ _ _ h => h) (Or.inl ⟨by kernel_rfl, fun w hSw => by (go_simp)⟩) (by assumption) ?_
                    simp only [Act.put, List.setIfInBounds_toArray, List.set_cons_zero, List.set_cons_succ]
                    refine take_oneH 53 (i := 3) (v := .slice (some ⟨b, off, none⟩) l.length cap) rfl rfl (by kernel_rfl) (by kernel_rfl) (by kernel_rfl) (fun _ _ _ h => h) (Or.inl ⟨by kernel_rfl, fun w hSw => by (go_simp)⟩) (by assumption) ?_
                    simp only [Act.put, List.setIfInBounds_toArray, List.set_cons_zero, List.set_cons_succ]
                    refine take_oneH 54 (i := 4) (v := .int .i64 ((j : Nat) : Int)) rfl rfl (by kernel_rfl) (by kernel_rfl) (by kernel_rfl) (fun _ _ _ h => h) (Or.inl ⟨by kernel_rfl, fun w hSw => by (go_simp)⟩) (by assumption) ?_
                    simp only [Act.put, List.setIfInBounds_toArray, List.set_cons_zero, List.set_cons_succ]
                    refine take_oneH 55 (i := 5) (v := .pointer (some ⟨b, off + j * 4, none⟩)) rfl rfl (by kernel_rfl) (by kernel_rfl) (by kernel_rfl) (fun _ _ _ h => h) (Or.inl ⟨by kernel_rfl, fun w hSw => by (go_simp)⟩) (by assumption) ?_
                    simp only [Act.put, List.setIfInBounds_toArray, List.set_cons_zero, List.set_cons_succ]
                    refine take_oneH 56 (i := 6) (v := .pointer (some ⟨b, off + j * 4, none⟩)) rfl rfl (by kernel_rfl) (by kernel_rfl) (by kernel_rfl) (fun _ _ _ h => h) (Or.inl ⟨by kernel_rfl, fun w hSw => by (go_simp)⟩) (by assumption) ?_
                    simp only [Act.put, List.setIfInBounds_toArray, List.set_cons_zero, List.set_cons_succ]
                    refine take_oneH 57 (i := 7) (v := .int .i64 r.num) rfl rfl (by kernel_rfl) (by kernel_rfl) (by kernel_rfl) (fun _ _ _ h => h) (Or.inl ⟨by kernel_rfl, fun w hSw => by (go_simp)⟩) (by assumption) ?_
                    simp only [Act.put, List.setIfInBounds_toArray, List.set_cons_zero, List.set_cons_succ]
                    refine take_oneH 58 (i := 8) (v := .slice (some ⟨b, off, none⟩) l.length cap) rfl rfl (by kernel_rfl) (by kernel_rfl) (by kernel_rfl) (fun _ _ _ h => h) (Or.inl ⟨by kernel_rfl, fun w hSw => by (go_simp)⟩) (by assumption) ?_
                    simp only [Act.put, List.setIfInBounds_toArray, List.set_cons_zero, List.set_cons_succ]
                    refine take_oneH 59 (i := 9) (v := .int .i64 ((j : Nat) : Int)) rfl rfl (by kernel_rfl) (by kernel_rfl) (by kernel_rfl) (fun _ _ _ h => h) (Or.inl ⟨by kernel_rfl, fun w hSw => by (go_simp)⟩) (by assumption) ?_
                    simp only [Act.put, List.setIfInBounds_toArray, List.set_cons_zero, List.set_cons_succ]
                    refine take_oneH 60 (i := 10) (v := .int .i64 (jj : Int)) rfl rfl (by kernel_rfl) (by kernel_rfl) (by kernel_rfl) (fun _ _ _ h => h) (Or.inl ⟨by kernel_rfl, fun w hSw => by (go_simp)⟩) (by assumption) ?_
                    simp only [Act.put, List.setIfInBounds_toArray, List.set_cons_zero, List.set_cons_succ]
                    refine take_oneH 61 (i := 11) (v := .pointer (some ⟨b, off + jj * 4, none⟩)) rfl rfl (by kernel_rfl) (by kernel_rfl) (by kernel_rfl) (fun _ _ _ h => h) (Or.inl ⟨by kernel_rfl, fun w hSw => by (go_simp)⟩) (by assumption) ?_
                    simp only [Act.put, List.setIfInBounds_toArray, List.set_cons_zero, List.set_cons_succ]
                    refine take_oneH 62 (i := 12) (v := .pointer (some ⟨b, off + jj * 4, none⟩)) rfl rfl (by kernel_rfl) (by kernel_rfl) (by kernel_rfl) (fun _ _ _ h => h) (Or.inl ⟨by kernel_rfl, fun w hSw => by (go_simp)⟩) (by assumption) ?_
                    simp only [Act.put, List.setIfInBounds_toArray, List.set_cons_zero, List.set_cons_succ]
                    refine take_oneH 63 (i := 13) (v := .int .i64 last) rfl rfl (by kernel_rfl) (by kernel_rfl) (by kernel_rfl) (fun _ _ _ h => h) (Or.inl ⟨by kernel_rfl, fun w hSw => by (go_simp)⟩) (by assumption) ?_
                    simp only [Act.put, List.setIfInBounds_toArray, List.set_cons_zero, List.set_cons_succ]
                    refine take_oneH 64 (i := 14) (v := .bool false) rfl rfl (by kernel_rfl) (by kernel_rfl) (by kernel_rfl) (fun _ _ _ h => h) (Or.inl ⟨by kernel_rfl, fun w hSw => by (go_simp)⟩) (by assumption) ?_
                    simp only [Act.put, List.setIfInBounds_toArray, List.set_cons_zero, List.set_cons_succ]
                    refine take_oneH 65 (i := 15) (v := .bool false) rfl rfl (by kernel_rfl) (by kernel_rfl) (by kernel_rfl) (fun _ _ _ h => h) (Or.inl ⟨by kernel_rfl, fun w hSw => by (go_simp)⟩) (by assumption) ?_
                    simp only [Act.put, List.setIfInBounds_toArray, List.set_cons_zero, List.set_cons_succ]
                    refine take_oneH 66 (i := 16) (v := .bool false) rfl rfl (by kernel_rfl) (by kernel_rfl) (by kernel_rfl) (fun _ _ _ h => h) (Or.inl ⟨by kernel_rfl, fun w hSw => by (go_simp)⟩) (by assumption) ?_
                    simp only [Act.put, List.setIfInBounds_toArray, List.set_cons_zero, List.set_cons_succ]
                    refine take_oneH 67 (i := 17) (v := .slice (some ⟨b, off, none⟩) l.length cap) rfl rfl (by kernel_rfl) (by kernel_rfl) (by kernel_rfl) (fun _ _ _ h => h) (Or.inl ⟨by kernel_rfl, fun w hSw => by (go_simp)⟩) (by assumption) ?_
                    simp only [Act.put, List.setIfInBounds_toArray, List.set_cons_zero, List.set_cons_succ]
                    refine take_oneH 68 (i := 18) (v := .int .i64 ((j : Nat) : Int)) rfl rfl (by kernel_rfl) (by kernel_rfl) (by kernel_rfl) (fun _ _ _ h => h) (Or.inl ⟨by kernel_rfl, fun w hSw => by (go_simp)⟩) (by assumption) ?_
                    simp only [Act.put, List.setIfInBounds_toArray, List.set_cons_zero, List.set_cons_succ]
                    refine take_oneH 69 (i := 19) (v := .pointer (some ⟨b, off + j * 4, none⟩)) rfl rfl (by kernel_rfl) (by kernel_rfl) (by kernel_rfl) (fun _ _ _ h => h) (Or.inl ⟨by kernel_rfl, fun w hSw => by (go_simp)⟩) (by assumption) ?_
                    simp only [Act.put, List.setIfInBounds_toArray, List.set_cons_zero, List.set_cons_succ]
                    refine take_oneH 70 (i := 20) (v := .pointer (some ⟨b, off + j * 4, none⟩)) rfl rfl (by kernel_rfl) (by kernel_rfl) (by kernel_rfl) (fun _ _ _ h => h) (Or.inl ⟨by kernel_rfl, fun w hSw => by (go_simp)⟩) (by assumption) ?_
                    simp only [Act.put, List.setIfInBounds_toArray, List.set_cons_zero, List.set_cons_succ]
                    refine take_oneH 71 (i := 21) (v := .int .i64 r.num) rfl rfl (by kernel_rfl) (by kernel_rfl) (by kernel_rfl) (fun _ _ _ h => h) (Or.inl ⟨by kernel_rfl, fun w hSw => by (go_simp)⟩) (by assumption) ?_
                    simp only [Act.put, List.setIfInBounds_toArray, List.set_cons_zero, List.set_cons_succ]
                    refine take_oneH 72 (i := 22) (v := .bool true) rfl rfl (by kernel_rfl) (by kernel_rfl) (by kernel_rfl) (fun _ _ _ h => h) (Or.inl ⟨by kernel_rfl, fun w hSw => by (go_simp)⟩) (by assumption) ?_
                    simp only [Act.put, List.setIfInBounds_toArray, List.set_cons_zero, List.set_cons_succ]
                    refine take_oneH 73 (i := 23) (v := .bool true) rfl rfl (by kernel_rfl) (by kernel_rfl) (by kernel_rfl) (fun _ _ _ h => h) (Or.inl ⟨by kernel_rfl, fun w hSw => by (go_simp)⟩) (by assumption) ?_
                    simp only [Act.put, List.setIfInBounds_toArray, List.set_cons_zero, List.set_cons_succ]
                    refine take_oneH 74 (i := 24) (v := .bool true) rfl rfl (by kernel_rfl) (by kernel_rfl) (by kernel_rfl) (fun _ _ _ h => h) (Or.inl ⟨by kernel_rfl, fun w hSw => by (go_simp)⟩) (by assumption) ?_
                    simp only [Act.put, List.setIfInBounds_toArray, List.set_cons_zero, List.set_cons_succ]
                    refine take_oneH 75 (i := 25) (v := undef) rfl rfl (by kernel_rfl) (by kernel_rfl) (by kernel_rfl) (fun _ _ _ h => h) (Or.inr ⟨by kernel_rfl, rfl⟩) (by assumption) ?_
                    simp only [Act.put, List.setIfInBounds_toArray, List.set_cons_zero, List.set_cons_succ]
                    refine take_oneH 76 (i := 26) (v := undef) rfl rfl (by kernel_rfl) (by kernel_rfl) (by kernel_rfl) (fun _ _ _ h => h) (Or.inr ⟨by kernel_rfl, rfl⟩) (by assumption) ?_
                    simp only [Act.put, List.setIfInBounds_toArray, List.set_cons_zero, List.set_cons_succ]
                    refine take_oneH 77 (i := 27) (v := undef) rfl rfl (by kernel_rfl) (by kernel_rfl) (by kernel_rfl) (fun _ _ _ h => h) (Or.inr ⟨by kernel_rfl, rfl⟩) (by assumption) ?_
                    simp only [Act.put, List.setIfInBounds_toArray, List.set_cons_zero, List.set_cons_succ]
                    refine take_oneH 78 (i := 28) (v := undef) rfl rfl (by kernel_rfl) (by kernel_rfl) (by kernel_rfl) (fun _ _ _ h => h) (Or.inr ⟨by kernel_rfl, rfl⟩) (by assumption) ?_
                    simp only [Act.put, List.setIfInBounds_toArray, List.set_cons_zero, List.set_cons_succ]
                    refine take_oneH 79 (i := 29) (v := undef) rfl rfl (by kernel_rfl) (by kernel_rfl) (by kernel_rfl) (fun _ _ _ h => h) (Or.inr ⟨by kernel_rfl, rfl⟩) (by assumption) ?_
                    simp only [Act.put, List.setIfInBounds_toArray, List.set_cons_zero, List.set_cons_succ]
                    refine take_oneH 80 (i := 30) (v := undef) rfl rfl (by kernel_rfl) (by kernel_rfl) (by kernel_rfl) (fun _ _ _ h => h) (Or.inr ⟨by kernel_rfl, rfl⟩) (by assumption) ?_
                    simp only [Act.put, List.setIfInBounds_toArray, List.set_cons_zero, List.set_cons_succ]
                    refine take_oneH 81 (i := 31) (v := undef) rfl rfl (by kernel_rfl) (by kernel_rfl) (by kernel_rfl) (fun _ _ _ h => h) (Or.inr ⟨by kernel_rfl, rfl⟩) (by assumption) ?_
                    simp only [Act.put, List.setIfInBounds_toArray, List.set_cons_zero, List.set_cons_succ]
                    refine take_oneH 82 (i := 32) (v := .bool true) rfl rfl (by kernel_rfl) (by kernel_rfl) (by kernel_rfl) (fun _ _ _ h => h) (Or.inl ⟨by kernel_rfl, fun w hSw => by (go_simp)⟩) (by assumption) ?_
                    simp only [Act.put, List.setIfInBounds_toArray, List.set_cons_zero, List.set_cons_succ]
                    refine wpAnyH_done (by kernel_rfl) ?_ _
                    clear hHeld c0 c3 cp
                    go_wp2
                    go_meet
                    exact ⟨_, rfl, rfl, Lib.hid (below_drewN (Below.refl _ _) _)⟩
                  by_cases hs : 16384 < r.data.size
                  · as_aux_lemma =>
                    obtain rfl : fb = true := by rw [← HFB.out]; exact decide_eq_true (.inr (.inr hs))
                    have hsi : (16384 : Int) < (r.data.size : Int) := by omega
                    clear hjj hs hds
                    go_wp2_with fail
                    refine wp_region_held_drew (S := fun w' => w'.cell? ⟨b, off + j * 4, none⟩ = some (.int .i64 r.num) ∧ w'.cell? ⟨b, off + j * 4 + 3, none⟩ = some (.string r.data) ∧ w'.cell? ⟨b, off + jj * 4, none⟩ = some (.int .i64 last)) (by kernel_rfl) ⟨c0, c3, cp⟩ (fun hHeld => ?_)
                    refine take_oneH 50 (i := 0) (v := .int .i64 ((j : Nat) : Int)) rfl rfl (by kernel_rfl) (by kernel_rfl) (by kernel_rfl) (fun _ _ _ h => h) (Or.inl ⟨by kernel_rfl, fun w hSw => by (go_simp)⟩) (by assumption) ?_
                    simp only [Act.put, List.setIfInBounds_toArray, List.set_cons_zero, List.set_cons_succ]
                    refine take_oneH 51 (i := 1) (v := .bool true) rfl rfl (by kernel_rfl) (by kernel_rfl) (by kernel_rfl) (fun _ _ _ h => h) (Or.inl ⟨by kernel_rfl, fun w hSw => by (go_simp)⟩) (by assumption) ?_
                    simp only [Act.put, List.setIfInBounds_toArray, List.set_cons_zero, List.set_cons_succ]
                    refine take_oneH 52 (i := 2) (v := .bool true) rfl rfl (by kernel_rfl) (by kernel_rfl) (by kernel_rfl) (fun _ _ _ h => h) (Or.inl ⟨by kernel_rfl, fun w hSw => by (go_simp)⟩) (by assumption) ?_
                    simp only [Act.put, List.setIfInBounds_toArray, List.set_cons_zero, List.set_cons_succ]
                    refine take_oneH 53 (i := 3) (v := .slice (some ⟨b, off, none⟩) l.length cap) rfl rfl (by kernel_rfl) (by kernel_rfl) (by kernel_rfl) (fun _ _ _ h => h) (Or.inl ⟨by kernel_rfl, fun w hSw => by (go_simp)⟩) (by assumption) ?_
                    simp only [Act.put, List.setIfInBounds_toArray, List.set_cons_zero, List.set_cons_succ]
                    refine take_oneH 54 (i := 4) (v := .int .i64 ((j : Nat) : Int)) rfl rfl (by kernel_rfl) (by kernel_rfl) (by kernel_rfl) (fun _ _ _ h => h) (Or.inl ⟨by kernel_rfl, fun w hSw => by (go_simp)⟩) (by assumption) ?_
                    simp only [Act.put, List.setIfInBounds_toArray, List.set_cons_zero, List.set_cons_succ]
                    refine take_oneH 55 (i := 5) (v := .pointer (some ⟨b, off + j * 4, none⟩)) rfl rfl (by kernel_rfl) (by kernel_rfl) (by kernel_rfl) (fun _ _ _ h => h) (Or.inl ⟨by kernel_rfl, fun w hSw => by (go_simp)⟩) (by assumption) ?_
                    simp only [Act.put, List.setIfInBounds_toArray, List.set_cons_zero, List.set_cons_succ]
                    refine take_oneH 56 (i := 6) (v := .pointer (some ⟨b, off + j * 4, none⟩)) rfl rfl (by kernel_rfl) (by kernel_rfl) (by kernel_rfl) (fun _ _ _ h => h) (Or.inl ⟨by kernel_rfl, fun w hSw => by (go_simp)⟩) (by assumption) ?_
                    simp only [Act.put, List.setIfInBounds_toArray, List.set_cons_zero, List.set_cons_succ]
                    refine take_oneH 57 (i := 7) (v := .int .i64 r.num) rfl rfl (by kernel_rfl) (by kernel_rfl) (by kernel_rfl) (fun _ _ _ h => h) (Or.inl ⟨by kernel_rfl, fun w hSw => by (go_simp)⟩) (by assumption) ?_
                    simp only [Act.put, List.setIfInBounds_toArray, List.set_cons_zero, List.set_cons_succ]
                    refine take_oneH 58 (i := 8) (v := .slice (some ⟨b, off, none⟩) l.length cap) rfl rfl (by kernel_rfl) (by kernel_rfl) (by kernel_rfl) (fun _ _ _ h => h) (Or.inl ⟨by kernel_rfl, fun w hSw => by (go_simp)⟩) (by assumption) ?_
                    simp only [Act.put, List.setIfInBounds_toArray, List.set_cons_zero, List.set_cons_succ]
                    refine take_oneH 59 (i := 9) (v := .int .i64 ((j : Nat) : Int)) rfl rfl (by kernel_rfl) (by kernel_rfl) (by kernel_rfl) (fun _ _ _ h => h) (Or.inl ⟨by kernel_rfl, fun w hSw => by (go_simp)⟩) (by assumption) ?_
                    simp only [Act.put, List.setIfInBounds_toArray, List.set_cons_zero, List.set_cons_succ]
                    refine take_oneH 60 (i := 10) (v := .int .i64 (jj : Int)) rfl rfl (by kernel_rfl) (by kernel_rfl) (by kernel_rfl) (fun _ _ _ h => h) (Or.inl ⟨by kernel_rfl, fun w hSw => by (go_simp)⟩) (by assumption) ?_
                    simp only [Act.put, List.setIfInBounds_toArray, List.set_cons_zero, List.set_cons_succ]
                    refine take_oneH 61 (i := 11) (v := .pointer (some ⟨b, off + jj * 4, none⟩)) rfl rfl (by kernel_rfl) (by kernel_rfl) (by kernel_rfl) (fun _ _ _ h => h) (Or.inl ⟨by kernel_rfl, fun w hSw => by (go_simp)⟩) (by assumption) ?_
                    simp only [Act.put, List.setIfInBounds_toArray, List.set_cons_zero, List.set_cons_succ]
                    refine take_oneH 62 (i := 12) (v := .pointer (some ⟨b, off + jj * 4, none⟩)) rfl rfl (by kernel_rfl) (by kernel_rfl) (by kernel_rfl) (fun _ _ _ h => h) (Or.inl ⟨by kernel_rfl, fun w hSw => by (go_simp)⟩) (by assumption) ?_
                    simp only [Act.put, List.setIfInBounds_toArray, List.set_cons_zero, List.set_cons_succ]
                    refine take_oneH 63 (i := 13) (v := .int .i64 last) rfl rfl (by kernel_rfl) (by kernel_rfl) (by kernel_rfl) (fun _ _ _ h => h) (Or.inl ⟨by kernel_rfl, fun w hSw => by (go_simp)⟩) (by assumption) ?_
                    simp only [Act.put, List.setIfInBounds_toArray, List.set_cons_zero, List.set_cons_succ]
                    refine take_oneH 64 (i := 14) (v := .bool false) rfl rfl (by kernel_rfl) (by kernel_rfl) (by kernel_rfl) (fun _ _ _ h => h) (Or.inl ⟨by kernel_rfl, fun w hSw => by (go_simp)⟩) (by assumption) ?_
                    simp only [Act.put, List.setIfInBounds_toArray, List.set_cons_zero, List.set_cons_succ]
                    refine take_oneH 65 (i := 15) (v := .bool false) rfl rfl (by kernel_rfl) (by kernel_rfl) (by kernel_rfl) (fun _ _ _ h => h) (Or.inl ⟨by kernel_rfl, fun w hSw => by (go_simp)⟩) (by assumption) ?_
                    simp only [Act.put, List.setIfInBounds_toArray, List.set_cons_zero, List.set_cons_succ]
                    refine take_oneH 66 (i := 16) (v := .bool false) rfl rfl (by kernel_rfl) (by kernel_rfl) (by kernel_rfl) (fun _ _ _ h => h) (Or.inl ⟨by kernel_rfl, fun w hSw => by (go_simp)⟩) (by assumption) ?_
                    simp only [Act.put, List.setIfInBounds_toArray, List.set_cons_zero, List.set_cons_succ]
                    refine take_oneH 67 (i := 17) (v := .slice (some ⟨b, off, none⟩) l.length cap) rfl rfl (by kernel_rfl) (by kernel_rfl) (by kernel_rfl) (fun _ _ _ h => h) (Or.inl ⟨by kernel_rfl, fun w hSw => by (go_simp)⟩) (by assumption) ?_
                    simp only [Act.put, List.setIfInBounds_toArray, List.set_cons_zero, List.set_cons_succ]
                    refine take_oneH 68 (i := 18) (v := .int .i64 ((j : Nat) : Int)) rfl rfl (by kernel_rfl) (by kernel_rfl) (by kernel_rfl) (fun _ _ _ h => h) (Or.inl ⟨by kernel_rfl, fun w hSw => by (go_simp)⟩) (by assumption) ?_
                    simp only [Act.put, List.setIfInBounds_toArray, List.set_cons_zero, List.set_cons_succ]
                    refine take_oneH 69 (i := 19) (v := .pointer (some ⟨b, off + j * 4, none⟩)) rfl rfl (by kernel_rfl) (by kernel_rfl) (by kernel_rfl) (fun _ _ _ h => h) (Or.inl ⟨by kernel_rfl, fun w hSw => by (go_simp)⟩) (by assumption) ?_
                    simp only [Act.put, List.setIfInBounds_toArray, List.set_cons_zero, List.set_cons_succ]
                    refine take_oneH 70 (i := 20) (v := .pointer (some ⟨b, off + j * 4, none⟩)) rfl rfl (by kernel_rfl) (by kernel_rfl) (by kernel_rfl) (fun _ _ _ h => h) (Or.inl ⟨by kernel_rfl, fun w hSw => by (go_simp)⟩) (by assumption) ?_
                    simp only [Act.put, List.setIfInBounds_toArray, List.set_cons_zero, List.set_cons_succ]
                    refine take_oneH 71 (i := 21) (v := .int .i64 r.num) rfl rfl (by kernel_rfl) (by kernel_rfl) (by kernel_rfl) (fun _ _ _ h => h) (Or.inl ⟨by kernel_rfl, fun w hSw => by (go_simp)⟩) (by assumption) ?_
                    simp only [Act.put, List.setIfInBounds_toArray, List.set_cons_zero, List.set_cons_succ]
                    refine take_oneH 72 (i := 22) (v := .bool false) rfl rfl (by kernel_rfl) (by kernel_rfl) (by kernel_rfl) (fun _ _ _ h => h) (Or.inl ⟨by kernel_rfl, fun w hSw => by (go_simp)⟩) (by assumption) ?_
                    simp only [Act.put, List.setIfInBounds_toArray, List.set_cons_zero, List.set_cons_succ]
                    refine take_oneH 73 (i := 23) (v := .bool false) rfl rfl (by kernel_rfl) (by kernel_rfl) (by kernel_rfl) (fun _ _ _ h => h) (Or.inl ⟨by kernel_rfl, fun w hSw => by (go_simp)⟩) (by assumption) ?_
                    simp only [Act.put, List.setIfInBounds_toArray, List.set_cons_zero, List.set_cons_succ]
                    refine take_oneH 74 (i := 24) (v := .bool false) rfl rfl (by kernel_rfl) (by kernel_rfl) (by kernel_rfl) (fun _ _ _ h => h) (Or.inl ⟨by kernel_rfl, fun w hSw => by (go_simp)⟩) (by assumption) ?_
                    simp only [Act.put, List.setIfInBounds_toArray, List.set_cons_zero, List.set_cons_succ]
                    refine take_oneH 75 (i := 25) (v := .slice (some ⟨b, off, none⟩) l.length cap) rfl rfl (by kernel_rfl) (by kernel_rfl) (by kernel_rfl) (fun _ _ _ h => h) (Or.inl ⟨by kernel_rfl, fun w hSw => by (go_simp)⟩) (by assumption) ?_
                    simp only [Act.put, List.setIfInBounds_toArray, List.set_cons_zero, List.set_cons_succ]
                    refine take_oneH 76 (i := 26) (v := .int .i64 ((j : Nat) : Int)) rfl rfl (by kernel_rfl) (by kernel_rfl) (by kernel_rfl) (fun _ _ _ h => h) (Or.inl ⟨by kernel_rfl, fun w hSw => by (go_simp)⟩) (by assumption) ?_
                    simp only [Act.put, List.setIfInBounds_toArray, List.set_cons_zero, List.set_cons_succ]
                    refine take_oneH 77 (i := 27) (v := .pointer (some ⟨b, off + j * 4, none⟩)) rfl rfl (by kernel_rfl) (by kernel_rfl) (by kernel_rfl) (fun _ _ _ h => h) (Or.inl ⟨by kernel_rfl, fun w hSw => by (go_simp)⟩) (by assumption) ?_
                    simp only [Act.put, List.setIfInBounds_toArray, List.set_cons_zero, List.set_cons_succ]
                    refine take_oneH 78 (i := 28) (v := .pointer (some ⟨b, off + j * 4 + 3, none⟩)) rfl rfl (by kernel_rfl) (by kernel_rfl) (by kernel_rfl) (fun _ _ _ h => h) (Or.inl ⟨by kernel_rfl, fun w hSw => by (go_simp)⟩) (by assumption) ?_
                    simp only [Act.put, List.setIfInBounds_toArray, List.set_cons_zero, List.set_cons_succ]
                    refine take_oneH 79 (i := 29) (v := .string r.data) rfl rfl (by kernel_rfl) (by kernel_rfl) (by kernel_rfl) (fun _ _ _ h => h) (Or.inl ⟨by kernel_rfl, fun w hSw => by (go_simp)⟩) (by assumption) ?_
                    simp only [Act.put, List.setIfInBounds_toArray, List.set_cons_zero, List.set_cons_succ]
                    refine take_oneH 80 (i := 30) (v := .int .i64 (r.data.size : Int)) rfl rfl (by kernel_rfl) (by kernel_rfl) (by kernel_rfl) (fun _ _ _ h => h) (Or.inl ⟨by kernel_rfl, fun w hSw => by (go_simp)⟩) (by assumption) ?_
                    simp only [Act.put, List.setIfInBounds_toArray, List.set_cons_zero, List.set_cons_succ]
                    refine take_oneH 81 (i := 31) (v := .bool true) rfl rfl (by kernel_rfl) (by kernel_rfl) (by kernel_rfl) (fun _ _ _ h => h) (Or.inl ⟨by kernel_rfl, fun w hSw => by (go_simp)⟩) (by assumption) ?_
                    simp only [Act.put, List.setIfInBounds_toArray, List.set_cons_zero, List.set_cons_succ]
                    refine take_oneH 82 (i := 32) (v := .bool true) rfl rfl (by kernel_rfl) (by kernel_rfl) (by kernel_rfl) (fun _ _ _ h => h) (Or.inl ⟨by kernel_rfl, fun w hSw => by (go_simp)⟩) (by assumption) ?_
                    simp only [Act.put, List.setIfInBounds_toArray, List.set_cons_zero, List.set_cons_succ]
                    refine wpAnyH_done (by kernel_rfl) ?_ _
                    clear hHeld c0 c3 cp
                    go_wp2
                    go_meet
                    exact ⟨_, rfl, rfl, Lib.hid (below_drewN (Below.refl _ _) _)⟩
                  · as_aux_lemma =>
                    obtain rfl : fb = false := by rw [← HFB.out]; exact decide_eq_false (fun h => by rcases h with h | h | h <;> omega)
                    have hsi : ¬ (16384 : Int) < (r.data.size : Int) := by omega
                    clear hjj hs hds
                    go_wp2_with fail
                    refine wp_region_held_drew (S := fun w' => w'.cell? ⟨b, off + j * 4, none⟩ = some (.int .i64 r.num) ∧ w'.cell? ⟨b, off + j * 4 + 3, none⟩ = some (.string r.data) ∧ w'.cell? ⟨b, off + jj * 4, none⟩ = some (.int .i64 last)) (by kernel_rfl) ⟨c0, c3, cp⟩ (fun hHeld => ?_)
                    refine take_oneH 50 (i := 0) (v := .int .i64 ((j : Nat) : Int)) rfl rfl (by kernel_rfl) (by kernel_rfl) (by kernel_rfl) (fun _ _ _ h => h) (Or.inl ⟨by kernel_rfl, fun w hSw => by (go_simp)⟩) (by assumption) ?_
                    simp only [Act.put, List.setIfInBounds_toArray, List.set_cons_zero, List.set_cons_succ]
                    refine take_oneH 51 (i := 1) (v := .bool true) rfl rfl (by kernel_rfl) (by kernel_rfl) (by kernel_rfl) (fun _ _ _ h => h) (Or.inl ⟨by kernel_rfl, fun w hSw => by (go_simp)⟩) (by assumption) ?_
                    simp only [Act.put, List.setIfInBounds_toArray, List.set_cons_zero, List.set_cons_succ]
                    refine take_oneH 52 (i := 2) (v := .bool true) rfl rfl (by kernel_rfl) (by kernel_rfl) (by kernel_rfl) (fun _ _ _ h => h) (Or.inl ⟨by kernel_rfl, fun w hSw => by (go_simp)⟩) (by assumption) ?_
                    simp only [Act.put, List.setIfInBounds_toArray, List.set_cons_zero, List.set_cons_succ]
                    refine take_oneH 53 (i := 3) (v := .slice (some ⟨b, off, none⟩) l.length cap) rfl rfl (by kernel_rfl) (by kernel_rfl) (by kernel_rfl) (fun _ _ _ h => h) (Or.inl ⟨by kernel_rfl, fun w hSw => by (go_simp)⟩) (by assumption) ?_
                    simp only [Act.put, List.setIfInBounds_toArray, List.set_cons_zero, List.set_cons_succ]
                    refine take_oneH 54 (i := 4) (v := .int .i64 ((j : Nat) : Int)) rfl rfl (by kernel_rfl) (by kernel_rfl) (by kernel_rfl) (fun _ _ _ h => h) (Or.inl ⟨by kernel_rfl, fun w hSw => by (go_simp)⟩) (by assumption) ?_
                    simp only [Act.put, List.setIfInBounds_toArray, List.set_cons_zero, List.set_cons_succ]
                    refine take_oneH 55 (i := 5) (v := .pointer (some ⟨b, off + j * 4, none⟩)) rfl rfl (by kernel_rfl) (by kernel_rfl) (by kernel_rfl) (fun _ _ _ h => h) (Or.inl ⟨by kernel_rfl, fun w hSw => by (go_simp)⟩) (by assumption) ?_
                    simp only [Act.put, List.setIfInBounds_toArray, List.set_cons_zero, List.set_cons_succ]
                    refine take_oneH 56 (i := 6) (v := .pointer (some ⟨b, off + j * 4, none⟩)) rfl rfl (by kernel_rfl) (by kernel_rfl) (by kernel_rfl) (fun _ _ _ h => h) (Or.inl ⟨by kernel_rfl, fun w hSw => by (go_simp)⟩) (by assumption) ?_
                    simp only [Act.put, List.setIfInBounds_toArray, List.set_cons_zero, List.set_cons_succ]
                    refine take_oneH 57 (i := 7) (v := .int .i64 r.num) rfl rfl (by kernel_rfl) (by kernel_rfl) (by kernel_rfl) (fun _ _ _ h => h) (Or.inl ⟨by kernel_rfl, fun w hSw => by (go_simp)⟩) (by assumption) ?_
                    simp only [Act.put, List.setIfInBounds_toArray, List.set_cons_zero, List.set_cons_succ]
                    refine take_oneH 58 (i := 8) (v := .slice (some ⟨b, off, none⟩) l.length cap) rfl rfl (by kernel_rfl) (by kernel_rfl) (by kernel_rfl) (fun _ _ _ h => h) (Or.inl ⟨by kernel_rfl, fun w hSw => by (go_simp)⟩) (by assumption) ?_
                    simp only [Act.put, List.setIfInBounds_toArray, List.set_cons_zero, List.set_cons_succ]
                    refine take_oneH 59 (i := 9) (v := .int .i64 ((j : Nat) : Int)) rfl rfl (by kernel_rfl) (by kernel_rfl) (by kernel_rfl) (fun _ _ _ h => h) (Or.inl ⟨by kernel_rfl, fun w hSw => by (go_simp)⟩) (by assumption) ?_
                    simp only [Act.put, List.setIfInBounds_toArray, List.set_cons_zero, List.set_cons_succ]
                    refine take_oneH 60 (i := 10) (v := .int .i64 (jj : Int)) rfl rfl (by kernel_rfl) (by kernel_rfl) (by kernel_rfl) (fun _ _ _ h => h) (Or.inl ⟨by kernel_rfl, fun w hSw => by (go_simp)⟩) (by assumption) ?_
                    simp only [Act.put, List.setIfInBounds_toArray, List.set_cons_zero, List.set_cons_succ]
                    refine take_oneH 61 (i := 11) (v := .pointer (some ⟨b, off + jj * 4, none⟩)) rfl rfl (by kernel_rfl) (by kernel_rfl) (by kernel_rfl) (fun _ _ _ h => h) (Or.inl ⟨by kernel_rfl, fun w hSw => by (go_simp)⟩) (by assumption) ?_
                    simp only [Act.put, List.setIfInBounds_toArray, List.set_cons_zero, List.set_cons_succ]
                    refine take_oneH 62 (i := 12) (v := .pointer (some ⟨b, off + jj * 4, none⟩)) rfl rfl (by kernel_rfl) (by kernel_rfl) (by kernel_rfl) (fun _ _ _ h => h) (Or.inl ⟨by kernel_rfl, fun w hSw => by (go_simp)⟩) (by assumption) ?_
                    simp only [Act.put, List.setIfInBounds_toArray, List.set_cons_zero, List.set_cons_succ]
                    refine take_oneH 63 (i := 13) (v := .int .i64 last) rfl rfl (by kernel_rfl) (by kernel_rfl) (by kernel_rfl) (fun _ _ _ h => h) (Or.inl ⟨by kernel_rfl, fun w hSw => by (go_simp)⟩) (by assumption) ?_
                    simp only [Act.put, List.setIfInBounds_toArray, List.set_cons_zero, List.set_cons_succ]
                    refine take_oneH 64 (i := 14) (v := .bool false) rfl rfl (by kernel_rfl) (by kernel_rfl) (by kernel_rfl) (fun _ _ _ h => h) (Or.inl ⟨by kernel_rfl, fun w hSw => by (go_simp)⟩) (by assumption) ?_
                    simp only [Act.put, List.setIfInBounds_toArray, List.set_cons_zero, List.set_cons_succ]
                    refine take_oneH 65 (i := 15) (v := .bool false) rfl rfl (by kernel_rfl) (by kernel_rfl) (by kernel_rfl) (fun _ _ _ h => h) (Or.inl ⟨by kernel_rfl, fun w hSw => by (go_simp)⟩) (by assumption) ?_
                    simp only [Act.put, List.setIfInBounds_toArray, List.set_cons_zero, List.set_cons_succ]
                    refine take_oneH 66 (i := 16) (v := .bool false) rfl rfl (by kernel_rfl) (by kernel_rfl) (by kernel_rfl) (fun _ _ _ h => h) (Or.inl ⟨by kernel_rfl, fun w hSw => by (go_simp)⟩) (by assumption) ?_
                    simp only [Act.put, List.setIfInBounds_toArray, List.set_cons_zero, List.set_cons_succ]
                    refine take_oneH 67 (i := 17) (v := .slice (some ⟨b, off, none⟩) l.length cap) rfl rfl (by kernel_rfl) (by kernel_rfl) (by kernel_rfl) (fun _ _ _ h => h) (Or.inl ⟨by kernel_rfl, fun w hSw => by (go_simp)⟩) (by assumption) ?_
                    simp only [Act.put, List.setIfInBounds_toArray, List.set_cons_zero, List.set_cons_succ]
                    refine take_oneH 68 (i := 18) (v := .int .i64 ((j : Nat) : Int)) rfl rfl (by kernel_rfl) (by kernel_rfl) (by kernel_rfl) (fun _ _ _ h => h) (Or.inl ⟨by kernel_rfl, fun w hSw => by (go_simp)⟩) (by assumption) ?_
                    simp only [Act.put, List.setIfInBounds_toArray, List.set_cons_zero, List.set_cons_succ]
                    refine take_oneH 69 (i := 19) (v := .pointer (some ⟨b, off + j * 4, none⟩)) rfl rfl (by kernel_rfl) (by kernel_rfl) (by kernel_rfl) (fun _ _ _ h => h) (Or.inl ⟨by kernel_rfl, fun w hSw => by (go_simp)⟩) (by assumption) ?_
                    simp only [Act.put, List.setIfInBounds_toArray, List.set_cons_zero, List.set_cons_succ]
                    refine take_oneH 70 (i := 20) (v := .pointer (some ⟨b, off + j * 4, none⟩)) rfl rfl (by kernel_rfl) (by kernel_rfl) (by kernel_rfl) (fun _ _ _ h => h) (Or.inl ⟨by kernel_rfl, fun w hSw => by (go_simp)⟩) (by assumption) ?_
                    simp only [Act.put, List.setIfInBounds_toArray, List.set_cons_zero, List.set_cons_succ]
                    refine take_oneH 71 (i := 21) (v := .int .i64 r.num) rfl rfl (by kernel_rfl) (by kernel_rfl) (by kernel_rfl) (fun _ _ _ h => h) (Or.inl ⟨by kernel_rfl, fun w hSw => by (go_simp)⟩) (by assumption) ?_
                    simp only [Act.put, List.setIfInBounds_toArray, List.set_cons_zero, List.set_cons_succ]
                    refine take_oneH 72 (i := 22) (v := .bool false) rfl rfl (by kernel_rfl) (by kernel_rfl) (by kernel_rfl) (fun _ _ _ h => h) (Or.inl ⟨by kernel_rfl, fun w hSw => by (go_simp)⟩) (by assumption) ?_
                    simp only [Act.put, List.setIfInBounds_toArray, List.set_cons_zero, List.set_cons_succ]
                    refine take_oneH 73 (i := 23) (v := .bool false) rfl rfl (by kernel_rfl) (by kernel_rfl) (by kernel_rfl) (fun _ _ _ h => h) (Or.inl ⟨by kernel_rfl, fun w hSw => by (go_simp)⟩) (by assumption) ?_
                    simp only [Act.put, List.setIfInBounds_toArray, List.set_cons_zero, List.set_cons_succ]
                    refine take_oneH 74 (i := 24) (v := .bool false) rfl rfl (by kernel_rfl) (by kernel_rfl) (by kernel_rfl) (fun _ _ _ h => h) (Or.inl ⟨by kernel_rfl, fun w hSw => by (go_simp)⟩) (by assumption) ?_
                    simp only [Act.put, List.setIfInBounds_toArray, List.set_cons_zero, List.set_cons_succ]
                    refine take_oneH 75 (i := 25) (v := .slice (some ⟨b, off, none⟩) l.length cap) rfl rfl (by kernel_rfl) (by kernel_rfl) (by kernel_rfl) (fun _ _ _ h => h) (Or.inl ⟨by kernel_rfl, fun w hSw => by (go_simp)⟩) (by assumption) ?_
                    simp only [Act.put, List.setIfInBounds_toArray, List.set_cons_zero, List.set_cons_succ]
                    refine take_oneH 76 (i := 26) (v := .int .i64 ((j : Nat) : Int)) rfl rfl (by kernel_rfl) (by kernel_rfl) (by kernel_rfl) (fun _ _ _ h => h) (Or.inl ⟨by kernel_rfl, fun w hSw => by (go_simp)⟩) (by assumption) ?_
                    simp only [Act.put, List.setIfInBounds_toArray, List.set_cons_zero, List.set_cons_succ]
                    refine take_oneH 77 (i := 27) (v := .pointer (some ⟨b, off + j * 4, none⟩)) rfl rfl (by kernel_rfl) (by kernel_rfl) (by kernel_rfl) (fun _ _ _ h => h) (Or.inl ⟨by kernel_rfl, fun w hSw => by (go_simp)⟩) (by assumption) ?_
                    simp only [Act.put, List.setIfInBounds_toArray, List.set_cons_zero, List.set_cons_succ]
                    refine take_oneH 78 (i := 28) (v := .pointer (some ⟨b, off + j * 4 + 3, none⟩)) rfl rfl (by kernel_rfl) (by kernel_rfl) (by kernel_rfl) (fun _ _ _ h => h) (Or.inl ⟨by kernel_rfl, fun w hSw => by (go_simp)⟩) (by assumption) ?_
                    simp only [Act.put, List.setIfInBounds_toArray, List.set_cons_zero, List.set_cons_succ]
                    refine take_oneH 79 (i := 29) (v := .string r.data) rfl rfl (by kernel_rfl) (by kernel_rfl) (by kernel_rfl) (fun _ _ _ h => h) (Or.inl ⟨by kernel_rfl, fun w hSw => by (go_simp)⟩) (by assumption) ?_
                    simp only [Act.put, List.setIfInBounds_toArray, List.set_cons_zero, List.set_cons_succ]
                    refine take_oneH 80 (i := 30) (v := .int .i64 (r.data.size : Int)) rfl rfl (by kernel_rfl) (by kernel_rfl) (by kernel_rfl) (fun _ _ _ h => h) (Or.inl ⟨by kernel_rfl, fun w hSw => by (go_simp)⟩) (by assumption) ?_
                    simp only [Act.put, List.setIfInBounds_toArray, List.set_cons_zero, List.set_cons_succ]
                    refine take_oneH 81 (i := 31) (v := .bool false) rfl rfl (by kernel_rfl) (by kernel_rfl) (by kernel_rfl) (fun _ _ _ h => h) (Or.inl ⟨by kernel_rfl, fun w hSw => by (go_simp)⟩) (by assumption) ?_
                    simp only [Act.put, List.setIfInBounds_toArray, List.set_cons_zero, List.set_cons_succ]
                    refine take_oneH 82 (i := 32) (v := .bool false) rfl rfl (by kernel_rfl) (by kernel_rfl) (by kernel_rfl) (fun _ _ _ h => h) (Or.inl ⟨by kernel_rfl, fun w hSw => by (go_simp)⟩) (by assumption) ?_
                    simp only [Act.put, List.setIfInBounds_toArray, List.set_cons_zero, List.set_cons_succ]
                    refine wpAnyH_done (by kernel_rfl) ?_ _
                    clear hHeld c0 c3 cp
                    go_wp2
                    go_meet
                    exact ⟨_, rfl, rfl, Lib.hid (below_drewN (Below.refl _ _) _)⟩
              case rest =>
                obtain ⟨wy, hwy, rfl, HBy⟩ := hcut
                subst hwy
                have HBY := Lib.hid (HBW.out.trans (HBy.out.mono HBW.out.size))
                have HB3Y := Lib.hid (HB.out.trans (HBy.out.mono HB.out.size))
                cases fb with
                | true => as_aux_lemma =>
                  have HNO := Lib.hid (show ∀ T, Good T → tolds T ≠ l from by
                    rcases of_decide_eq_true HFB.out with h | h | h
                    · exact HNOF.out (.inr (.inl h))
                    · exact HNOF.out (.inr (.inr h))
                    · exact HNOF.out (.inl (nod_big h)))
                  go_wp2
                  go_ret2
                  exact ⟨.inr ⟨HNO.out, rfl⟩, HBY.out⟩
                | false =>
                  have hnb := of_decide_eq_false HFB.out
                  have HN1 := Lib.hid (show ¬ r.num ≤ last ∧ r.num ≤ 65535 ∧ ¬ 16384 < r.data.size from ⟨fun h => hnb (.inl h), by omega, fun h => hnb (.inr (.inr h))⟩)
                  obtain ⟨c0, c1, c3⟩ := HCELL.out _ HBY.out
                  clear hnb
                  obtain ⟨rd, hrd⟩ : ∃ rd, r.dir = rd := ⟨_, rfl⟩
                  rw [hrd] at c1
                  have HRD := Lib.hid hrd
                  clear hrd
                  cases rd with
                  | false => as_aux_lemma =>
                    have HLK2 := Lib.hid (HMORE.out _ (nod_file HRD.out HN1.out.2.2) HN1.out.1 HN1.out.2.1)
                    have hw2 := HW2.out
                    go_wp2
                    go_roundw
                    case rel => exact ⟨j + 1, T ++ [_], r.num, HHLT.out, (by first | exact num_up hw2 | rfl), Lib.hid (by simp [HTL.out]), HLK2, HB3Y⟩
                    case measure => first | exact meas_v HHLT.out hw2 rfl rfl | exact meas_u HHLT.out rfl rfl
                  | true =>
                    have CP := WT.entRParse_any r.data HOD.out wy
                    clear c0
                    go_wp2_with fail
                    refine CP.mono ?_
                    rintro e w5 ⟨hP, hB5⟩
                    have HB5 := Lib.hid (HBY.out.trans (hB5.mono HBY.out.size))
                    have HB35 := Lib.hid (HB3Y.out.trans (hB5.mono HB3Y.out.size))
                    rcases hP with ⟨m, v5, hm, rfl, hrow⟩ | ⟨hno, rfl⟩
                    · obtain ⟨a5, cap5, rfl⟩ := WT.row_shape hrow
                      by_cases hml : 60 < m.length
                      · as_aux_lemma =>
                        have hmi : (60 : Int) < (m.length : Int) := by omega
                        have HNO := Lib.hid (HNOF.out (.inl (nod_many HRD.out hm hml)))
                        clear CP hB5 hm hrow hml
                        go_wp2
                        go_ret2
                        exact ⟨.inr ⟨HNO.out, rfl⟩, HB5.out⟩
                      · as_aux_lemma =>
                        have hmi : ¬ (60 : Int) < (m.length : Int) := by omega
                        have HLK2 := Lib.hid (HMORE.out _ (nod_dir HRD.out HN1.out.2.2 hm hml) HN1.out.1 HN1.out.2.1)
                        have hw2 := HW2.out
                        clear CP hB5 hm hrow hml
                        go_wp2
                        go_roundw
                        case rel => exact ⟨j + 1, T ++ [_], r.num, HHLT.out, (by first | exact num_up hw2 | rfl), Lib.hid (by simp [HTL.out]), HLK2, HB35⟩
                        case measure => first | exact meas_v HHLT.out hw2 rfl rfl | exact meas_u HHLT.out rfl rfl
                    · as_aux_lemma =>
                      have HNO := Lib.hid (HNOF.out (.inl (nod_none HRD.out hno)))
                      clear CP hB5 hno
                      go_wp2
                      go_ret2
                      exact ⟨.inr ⟨HNO.out, rfl⟩, HB5.out⟩
            · have hji : ¬ (j : Int) < (l.length : Int) := by omega
              have hTl : T.length = l.length := by rw [HTL.out]; omega
              have h60n : l.length ≤ 60 := Nat.le_of_not_lt H60.out
              obtain ⟨hRaw, hparts⟩ := HLK.out.parts hTl h60n
              have htl := HLK.out.taken.all hTl
              have HIFF := Lib.hid (meet_iff hRaw.rise hRaw.len hparts (by
                have h1 := H1L.out
                have hm : T[0]'(by omega) ∈ T := List.getElem_mem _
                have e1 : told (T[0]'(by omega)) = l[0] := by
                  have := tolds_get T 0 (by rw [htl]; exact h1)
                  rw [← this]
                  simp only [htl]
                obtain ⟨a1, a2, a3⟩ := HE0.out
                rw [← e1] at a1 a2 a3
                exact ⟨_, by have := hRaw.rise.at hm; rw [show (T[0]'(by omega)).num = 1 from a1] at this; exact this, a2, a3⟩))
              have e0 : told (T[0]'(by have := H1L.out; omega)) = l[0]'H1L.out := by
                have := tolds_get T 0 (by rw [htl]; exact H1L.out)
                rw [← this]
                simp only [htl]
              have hm0 : (T[0]'(by have := H1L.out; omega)) ∈ T := List.getElem_mem _
              have hn0 : (T[0]'(by have := H1L.out; omega)).num = 1 := by have h := HE0.out.1; rw [← e0] at h; exact h
              have hd0 : (T[0]'(by have := H1L.out; omega)).dir = true := by have h := HE0.out.2.1; rw [← e0] at h; exact h
              have hat1 : nodeAt T 1 = some (T[0]'(by have := H1L.out; omega)) := by have h := hRaw.rise.at hm0; rw [hn0] at h; exact h
              have hnames : namesAt T 1 = (T[0]'(by have := H1L.out; omega)).names := (isDir_at hat1).2
              have hdir := hRaw.dir _ hm0 hd0
              have hsz0 := hRaw.size _ hm0
              rw [e0, ← hnames] at hdir
              rw [e0] at hsz0
              have HUNI := Lib.hid (show ∀ U, Good U → tolds U = l → Good T from fun U hU e => by
                have := HLK.out.taken.uniq hTl hU.formed e
                subst this
                exact hU)
              have HEX := Lib.hid (show ∀ x ∈ T, x.num ≠ 1 → ∃ t, 1 ≤ t ∧ t < T.length ∧ T[t]? = some x from fun x hx hx1 => by
                obtain ⟨t, ht, e⟩ := List.mem_iff_getElem.1 hx
                refine ⟨t, ?_, ht, by rw [List.getElem?_eq_getElem ht, e]⟩
                refine Nat.one_le_iff_ne_zero.2 fun h => ?_
                subst h
                exact hx1 (by rw [← e]; exact hn0))
              have MI := make_ints0 l.length (by omega) wr
              obtain ⟨w5, hw5⟩ : ∃ w5, wr.alloc (intsO l.length (fun _ => 0)) = w5 := ⟨_, rfl⟩
              have hB5 : Below wr.heap.size wr w5 := by rw [← hw5]; exact (Below.refl _ wr).alloc (Nat.le_refl _) _
              have hr5 : w5.heap[wr.heap.size]? = some (intsO l.length (fun _ => 0)) := by rw [← hw5]; exact heap_alloc_new wr _
              have hs5 : w5.heap.size = wr.heap.size + 1 := by rw [← hw5]; exact Array.size_push _
              rw [hw5] at MI
              obtain ⟨w6, hw6⟩ : ∃ w6, w5.alloc (MObj w2.heap.size wr.heap.size l.length true) = w6 := ⟨_, rfl⟩
              have hB6 : Below w5.heap.size w5 w6 := by rw [← hw6]; exact (Below.refl _ w5).alloc (Nat.le_refl _) _
              have ho6 : w6.heap[w5.heap.size]? = some (MObj w2.heap.size wr.heap.size l.length true) := by rw [← hw6]; exact heap_alloc_new w5 _
              have hBr6 : Below wr.heap.size wr w6 := hB5.trans (hB6.mono hB5.size)
              have hB36 : Below w3.heap.size w3 w6 := HB.out.trans (hBr6.mono HB.out.size)
              have HB6 := Lib.hid (HB3.out.trans (hB36.mono HB3.out.size))
              have hM6 : MeetAt w6 w5.heap.size w2.heap.size wr.heap.size (.slice a2 l.length cap2) T true (fun _ => 0) := by
                have hl3 := HL3.out
                obtain ⟨a', c', eA, hcc⟩ := id hl3
                obtain ⟨b', off', eB, hb', _⟩ := hcc (by intro h; have := H1L.out; rw [h] at this; simp at this)
                have h3s := HS3.out
                have h3r := HB.out.size
                refine ⟨by rw [hTl]; exact ho6, keeps_of hB36 HT3.out, by rw [htl]; exact hl3.later hB36, ?_, ⟨by omega, by omega, by omega⟩, fun b1 off1 n1 cap1 e => ?_⟩
                · rw [hTl]
                  exact keeps_of hB6 hr5
                · rw [eA, eB] at e
                  injection e with e2 _ _
                  injection e2 with e2
                  injection e2 with e2 _ _
                  omega
              have CB := rbelow_any hRaw 8 (x := l[0]'H1L.out) hM6 hdir.1 (by omega) hdir.2 (by omega) (fun k => by have h1 := incB_le (f := 8) hdir.2; have h2 := meetB8 (f := 8) (by omega); simp; omega)
              obtain ⟨R, hR⟩ : ∃ R, meetL T 8 (namesAt T 1) (fun _ => 0) = R := ⟨_, rfl⟩
              rw [hR] at CB HIFF
              have hx := HARG2.out w6 HB6.out 0 H1L.out
              have x0 : w6.cell? ⟨b, off, none⟩ = some (.int .i64 (l[0]'H1L.out).num) := by have h := hx 0 (by omega); rw [show off + 0 * 4 + 0 = off by omega] at h; exact h
              have x1 : w6.cell? ⟨b, off + 1, none⟩ = some (.bool (l[0]'H1L.out).dir) := by have h := hx 1 (by omega); rw [show off + 0 * 4 + 1 = off + 1 by omega] at h; exact h
              have x2 : w6.cell? ⟨b, off + 2, none⟩ = some (.int .i64 (l[0]'H1L.out).links) := by have h := hx 2 (by omega); rw [show off + 0 * 4 + 2 = off + 2 by omega] at h; exact h
              have x3 : w6.cell? ⟨b, off + 3, none⟩ = some (.string (l[0]'H1L.out).data) := by have h := hx 3 (by omega); rw [show off + 0 * 4 + 3 = off + 3 by omega] at h; exact h
              unfold ndeV at CB
              rw [HE0.out.1, HE0.out.2.1, HE0.out.2.2] at CB
              rw [HE0.out.1] at x0
              rw [HE0.out.2.1] at x1
              rw [HE0.out.2.2] at x2
              obtain ⟨D0, hD0⟩ : ∃ D, (l[0]'H1L.out).data = D := ⟨_, rfl⟩
              rw [hD0] at CB x3
              rw [show (((8 : Nat)) : Int) = 8 from rfl] at CB
              have HLOW6 := Lib.hid (show w.heap.size ≤ w5.heap.size ∧ w.heap.size ≤ wr.heap.size from ⟨by have := HBW.out.size; omega, HBW.out.size⟩)
              have HTLL := Lib.hid hTl
              have h60i : l.length ≤ 60 := h60n
              unfold MObj at hw6
              clear hRaw hparts htl e0 hm0 hn0 hd0 hat1 hnames hdir hsz0 hB5 hr5 hs5 hB6 ho6 hBr6 hB36 hM6 hx hD0 hTl hR h60n
              go_wp2_with fail
              refine CB.mono ?_
              rintro e w7 ⟨rfl, hs7, h7⟩
              obtain ⟨pb, hpb⟩ : ∃ p, wr.heap.size = p := ⟨_, rfl⟩
              rw [hpb] at h7
              have H7 := Lib.hid h7
              have HB7 := Lib.hid (((Stir.of_below (F := fun _ => False) HB6.out).trans hs7 (fun i hi => .inr (by have := HLOW6.out; rcases hi with rfl | rfl <;> omega))).below (B := w.heap.size) (fun _ f => f.elim) (Nat.le_refl _))
              clear CB hs7 h7 x0 x1 x2 x3
              go_wp2
              go_loopw [9] (fun i wx => ∃ q : Nat, 1 ≤ q ∧ q ≤ l.length ∧ i = .int .i64 q ∧ Hid (∀ t y, 1 ≤ t → t < q → T[t]? = some y → R.2 = true ∧ 1 ≤ y.links ∧ (R.1 y.num : Int) = y.links) ∧ Hid (Below w7.heap.size w7 wx)) (fun i _ => l.length - (intOf i).toNat)
              case atStart => exact ⟨1, Nat.le_refl _, H1L.out, rfl, Lib.hid (fun t y h1 h2 => by omega), Lib.hid (Below.refl _ _)⟩
              case round =>
                obtain ⟨q, hq1, hql, rfl, HQ, HBx⟩ := hrel
                have HM := Lib.hid (H7.out.later HBx.out)
                have HBX := Lib.hid (HB7.out.trans (HBx.out.mono HB7.out.size))
                have m2 := MObj.c2 HM.out.obj
                have m1 := MObj.c1 HM.out.obj
                rw [HTLL.out] at m1
                obtain ⟨R1, R2⟩ := R
                simp only at m2
                by_cases hqt : q < l.length
                · have hqi : (q : Int) < (l.length : Int) := by omega
                  have HQL := Lib.hid hqt
                  obtain ⟨y, hy⟩ : ∃ y, T[q]? = some y := ⟨_, List.getElem?_eq_getElem (by rw [HTLL.out]; exact hqt)⟩
                  have hqc := HARG2.out wr HBX.out q hqt 2 (by omega)
                  have hlk : (l[q]).links = y.links := by
                    have := HLK.out.taken.all HTLL.out
                    obtain ⟨hqT, e1⟩ := List.getElem?_eq_some_iff.1 hy
                    have h2 := tolds_get T q (by rw [tolds_len]; exact hqT)
                    have h3 : l[q] = told y := by rw [← e1, ← h2]; simp only [this]; try rfl
                    rw [h3]; rfl
                  have q2 : wr.cell? ⟨b, off + q * 4 + 2, none⟩ = some (.int .i64 y.links) := by rw [← hlk]; exact hqc
                  have hcc := HM.out.count_y hy
                  have HBAD := Lib.hid (show ¬ (R2 = true ∧ 1 ≤ y.links ∧ (R1 y.num : Int) = y.links) → ∀ U, Good U → tolds U ≠ l from fun hb U hU e => by
                    have hG := HUNI.out U hU e
                    obtain ⟨g1, g2⟩ := HIFF.out.1 hG
                    obtain ⟨hqT, e1⟩ := List.getElem?_eq_some_iff.1 hy
                    have hyT : y ∈ T := by rw [← e1]; exact List.getElem_mem _
                    refine hb ⟨g1, g2 y hyT fun h1 => ?_⟩
                    have h0 := HIFF.out.1 hG
                    obtain ⟨r, U2, eU, er, _⟩ := good_head hG
                    have hr0 : T[0]? = some r := by rw [eU]; rfl
                    have := hG.formed.rise
                    obtain ⟨h0T, e2⟩ := List.getElem?_eq_some_iff.1 hr0
                    have hlt := (List.pairwise_iff_getElem.1 this) 0 q h0T hqT (by omega)
                    rw [e1, e2, er, h1, ordI.irr] at hlt; cases hlt)
                  have HGO := Lib.hid (show (R2 = true ∧ 1 ≤ y.links ∧ (R1 y.num : Int) = y.links) → ∀ t z, 1 ≤ t → t < q + 1 → T[t]? = some z → R2 = true ∧ 1 ≤ z.links ∧ (R1 z.num : Int) = z.links from fun hg t z h1 h2 h3 => by
                    by_cases e : t = q
                    · subst e
                      rw [hy] at h3; cases h3
                      exact hg
                    · exact HQ.out t z h1 (by omega) h3)
                  have HW2 := Lib.hid (show RowKit.wrap64 ((q : Int) + 1) = (q : Int) + 1 from w64_cnt (by omega) (by omega))
                  simp only at hcc
                  obtain ⟨K, hK⟩ : ∃ K : Nat, R1 y.num = K := ⟨_, rfl⟩
                  rw [hK] at hcc HBAD HGO
                  generalize y.links = L at *
                  clear hqc hlk hy hqt hK
                  cases R2 with
                  | false => as_aux_lemma =>
                    have HNO := Lib.hid (HBAD.out (fun h => by cases h.1))
                    go_wp2_with fail
                    refine wp_region_held_drew (S := fun w' => w'.cell? ⟨w5.heap.size, 2, none⟩ = some (.bool false) ∧ w'.cell? ⟨b, off + q * 4 + 2, none⟩ = some (.int .i64 L) ∧ w'.cell? ⟨w5.heap.size, 1, none⟩ = some (.slice (some ⟨pb, 0, none⟩) l.length l.length) ∧ w'.cell? ⟨pb, q, none⟩ = some (.int .i64 (K : Int))) (by kernel_rfl) ⟨m2, q2, m1, hcc⟩ (fun hHeld => ?_)
                    refine take_oneH 121 (i := 0) (v := .pointer (some ⟨w5.heap.size, 0, none⟩)) rfl rfl (by kernel_rfl) (by kernel_rfl) (by kernel_rfl) (fun _ _ _ h => h) (Or.inl ⟨by kernel_rfl, fun w hSw => by (go_simp)⟩) (by assumption) ?_
                    simp only [Act.put, List.setIfInBounds_toArray, List.set_cons_zero, List.set_cons_succ]
                    refine take_oneH 122 (i := 1) (v := .pointer (some ⟨w5.heap.size, 0, none⟩)) rfl rfl (by kernel_rfl) (by kernel_rfl) (by kernel_rfl) (fun _ _ _ h => h) (Or.inl ⟨by kernel_rfl, fun w hSw => by (go_simp)⟩) (by assumption) ?_
                    simp only [Act.put, List.setIfInBounds_toArray, List.set_cons_zero, List.set_cons_succ]
                    refine take_oneH 123 (i := 2) (v := .pointer (some ⟨w5.heap.size, 2, none⟩)) rfl rfl (by kernel_rfl) (by kernel_rfl) (by kernel_rfl) (fun _ _ _ h => h) (Or.inl ⟨by kernel_rfl, fun w hSw => by (go_simp)⟩) (by assumption) ?_
                    simp only [Act.put, List.setIfInBounds_toArray, List.set_cons_zero, List.set_cons_succ]
                    refine take_oneH 124 (i := 3) (v := .bool false) rfl rfl (by kernel_rfl) (by kernel_rfl) (by kernel_rfl) (fun _ _ _ h => h) (Or.inl ⟨by kernel_rfl, fun w hSw => by (go_simp)⟩) (by assumption) ?_
                    simp only [Act.put, List.setIfInBounds_toArray, List.set_cons_zero, List.set_cons_succ]
                    refine take_oneH 125 (i := 4) (v := .bool true) rfl rfl (by kernel_rfl) (by kernel_rfl) (by kernel_rfl) (fun _ _ _ h => h) (Or.inl ⟨by kernel_rfl, fun w hSw => by (go_simp)⟩) (by assumption) ?_
                    simp only [Act.put, List.setIfInBounds_toArray, List.set_cons_zero, List.set_cons_succ]
                    refine take_oneH 126 (i := 5) (v := .bool true) rfl rfl (by kernel_rfl) (by kernel_rfl) (by kernel_rfl) (fun _ _ _ h => h) (Or.inl ⟨by kernel_rfl, fun w hSw => by (go_simp)⟩) (by assumption) ?_
                    simp only [Act.put, List.setIfInBounds_toArray, List.set_cons_zero, List.set_cons_succ]
                    refine take_oneH 127 (i := 6) (v := undef) rfl rfl (by kernel_rfl) (by kernel_rfl) (by kernel_rfl) (fun _ _ _ h => h) (Or.inr ⟨by kernel_rfl, rfl⟩) (by assumption) ?_
                    simp only [Act.put, List.setIfInBounds_toArray, List.set_cons_zero, List.set_cons_succ]
                    refine take_oneH 128 (i := 7) (v := undef) rfl rfl (by kernel_rfl) (by kernel_rfl) (by kernel_rfl) (fun _ _ _ h => h) (Or.inr ⟨by kernel_rfl, rfl⟩) (by assumption) ?_
                    simp only [Act.put, List.setIfInBounds_toArray, List.set_cons_zero, List.set_cons_succ]
                    refine take_oneH 129 (i := 8) (v := undef) rfl rfl (by kernel_rfl) (by kernel_rfl) (by kernel_rfl) (fun _ _ _ h => h) (Or.inr ⟨by kernel_rfl, rfl⟩) (by assumption) ?_
                    simp only [Act.put, List.setIfInBounds_toArray, List.set_cons_zero, List.set_cons_succ]
                    refine take_oneH 130 (i := 9) (v := undef) rfl rfl (by kernel_rfl) (by kernel_rfl) (by kernel_rfl) (fun _ _ _ h => h) (Or.inr ⟨by kernel_rfl, rfl⟩) (by assumption) ?_
                    simp only [Act.put, List.setIfInBounds_toArray, List.set_cons_zero, List.set_cons_succ]
                    refine take_oneH 131 (i := 10) (v := undef) rfl rfl (by kernel_rfl) (by kernel_rfl) (by kernel_rfl) (fun _ _ _ h => h) (Or.inr ⟨by kernel_rfl, rfl⟩) (by assumption) ?_
                    simp only [Act.put, List.setIfInBounds_toArray, List.set_cons_zero, List.set_cons_succ]
                    refine take_oneH 132 (i := 11) (v := undef) rfl rfl (by kernel_rfl) (by kernel_rfl) (by kernel_rfl) (fun _ _ _ h => h) (Or.inr ⟨by kernel_rfl, rfl⟩) (by assumption) ?_
                    simp only [Act.put, List.setIfInBounds_toArray, List.set_cons_zero, List.set_cons_succ]
                    refine take_oneH 133 (i := 12) (v := .bool true) rfl rfl (by kernel_rfl) (by kernel_rfl) (by kernel_rfl) (fun _ _ _ h => h) (Or.inl ⟨by kernel_rfl, fun w hSw => by (go_simp)⟩) (by assumption) ?_
                    simp only [Act.put, List.setIfInBounds_toArray, List.set_cons_zero, List.set_cons_succ]
                    refine take_oneH 134 (i := 13) (v := .bool true) rfl rfl (by kernel_rfl) (by kernel_rfl) (by kernel_rfl) (fun _ _ _ h => h) (Or.inl ⟨by kernel_rfl, fun w hSw => by (go_simp)⟩) (by assumption) ?_
                    simp only [Act.put, List.setIfInBounds_toArray, List.set_cons_zero, List.set_cons_succ]
                    refine take_oneH 135 (i := 14) (v := undef) rfl rfl (by kernel_rfl) (by kernel_rfl) (by kernel_rfl) (fun _ _ _ h => h) (Or.inr ⟨by kernel_rfl, rfl⟩) (by assumption) ?_
                    simp only [Act.put, List.setIfInBounds_toArray, List.set_cons_zero, List.set_cons_succ]
                    refine take_oneH 136 (i := 15) (v := undef) rfl rfl (by kernel_rfl) (by kernel_rfl) (by kernel_rfl) (fun _ _ _ h => h) (Or.inr ⟨by kernel_rfl, rfl⟩) (by assumption) ?_
                    simp only [Act.put, List.setIfInBounds_toArray, List.set_cons_zero, List.set_cons_succ]
                    refine take_oneH 137 (i := 16) (v := undef) rfl rfl (by kernel_rfl) (by kernel_rfl) (by kernel_rfl) (fun _ _ _ h => h) (Or.inr ⟨by kernel_rfl, rfl⟩) (by assumption) ?_
                    simp only [Act.put, List.setIfInBounds_toArray, List.set_cons_zero, List.set_cons_succ]
                    refine take_oneH 138 (i := 17) (v := undef) rfl rfl (by kernel_rfl) (by kernel_rfl) (by kernel_rfl) (fun _ _ _ h => h) (Or.inr ⟨by kernel_rfl, rfl⟩) (by assumption) ?_
                    simp only [Act.put, List.setIfInBounds_toArray, List.set_cons_zero, List.set_cons_succ]
                    refine take_oneH 139 (i := 18) (v := undef) rfl rfl (by kernel_rfl) (by kernel_rfl) (by kernel_rfl) (fun _ _ _ h => h) (Or.inr ⟨by kernel_rfl, rfl⟩) (by assumption) ?_
                    simp only [Act.put, List.setIfInBounds_toArray, List.set_cons_zero, List.set_cons_succ]
                    refine take_oneH 140 (i := 19) (v := undef) rfl rfl (by kernel_rfl) (by kernel_rfl) (by kernel_rfl) (fun _ _ _ h => h) (Or.inr ⟨by kernel_rfl, rfl⟩) (by assumption) ?_
                    simp only [Act.put, List.setIfInBounds_toArray, List.set_cons_zero, List.set_cons_succ]
                    refine take_oneH 141 (i := 20) (v := undef) rfl rfl (by kernel_rfl) (by kernel_rfl) (by kernel_rfl) (fun _ _ _ h => h) (Or.inr ⟨by kernel_rfl, rfl⟩) (by assumption) ?_
                    simp only [Act.put, List.setIfInBounds_toArray, List.set_cons_zero, List.set_cons_succ]
                    refine take_oneH 142 (i := 21) (v := undef) rfl rfl (by kernel_rfl) (by kernel_rfl) (by kernel_rfl) (fun _ _ _ h => h) (Or.inr ⟨by kernel_rfl, rfl⟩) (by assumption) ?_
                    simp only [Act.put, List.setIfInBounds_toArray, List.set_cons_zero, List.set_cons_succ]
                    refine take_oneH 143 (i := 22) (v := undef) rfl rfl (by kernel_rfl) (by kernel_rfl) (by kernel_rfl) (fun _ _ _ h => h) (Or.inr ⟨by kernel_rfl, rfl⟩) (by assumption) ?_
                    simp only [Act.put, List.setIfInBounds_toArray, List.set_cons_zero, List.set_cons_succ]
                    refine take_oneH 144 (i := 23) (v := undef) rfl rfl (by kernel_rfl) (by kernel_rfl) (by kernel_rfl) (fun _ _ _ h => h) (Or.inr ⟨by kernel_rfl, rfl⟩) (by assumption) ?_
                    simp only [Act.put, List.setIfInBounds_toArray, List.set_cons_zero, List.set_cons_succ]
                    refine take_oneH 145 (i := 24) (v := undef) rfl rfl (by kernel_rfl) (by kernel_rfl) (by kernel_rfl) (fun _ _ _ h => h) (Or.inr ⟨by kernel_rfl, rfl⟩) (by assumption) ?_
                    simp only [Act.put, List.setIfInBounds_toArray, List.set_cons_zero, List.set_cons_succ]
                    refine take_oneH 146 (i := 25) (v := undef) rfl rfl (by kernel_rfl) (by kernel_rfl) (by kernel_rfl) (fun _ _ _ h => h) (Or.inr ⟨by kernel_rfl, rfl⟩) (by assumption) ?_
                    simp only [Act.put, List.setIfInBounds_toArray, List.set_cons_zero, List.set_cons_succ]
                    refine take_oneH 147 (i := 26) (v := undef) rfl rfl (by kernel_rfl) (by kernel_rfl) (by kernel_rfl) (fun _ _ _ h => h) (Or.inr ⟨by kernel_rfl, rfl⟩) (by assumption) ?_
                    simp only [Act.put, List.setIfInBounds_toArray, List.set_cons_zero, List.set_cons_succ]
                    refine take_oneH 148 (i := 27) (v := .bool true) rfl rfl (by kernel_rfl) (by kernel_rfl) (by kernel_rfl) (fun _ _ _ h => h) (Or.inl ⟨by kernel_rfl, fun w hSw => by (go_simp)⟩) (by assumption) ?_
                    simp only [Act.put, List.setIfInBounds_toArray, List.set_cons_zero, List.set_cons_succ]
                    refine wpAnyH_done (by kernel_rfl) ?_ _
                    clear hHeld m2 q2 m1 hcc
                    go_wp2
                    go_ret2
                    exact ⟨.inr ⟨HNO.out, rfl⟩, below_drewN HBX.out _⟩
                  | true =>
                    by_cases hL : L < 1
                    · as_aux_lemma =>
                      have HNO := Lib.hid (HBAD.out (fun h => by omega))
                      go_wp2_with fail
                      refine wp_region_held_drew (S := fun w' => w'.cell? ⟨w5.heap.size, 2, none⟩ = some (.bool true) ∧ w'.cell? ⟨b, off + q * 4 + 2, none⟩ = some (.int .i64 L) ∧ w'.cell? ⟨w5.heap.size, 1, none⟩ = some (.slice (some ⟨pb, 0, none⟩) l.length l.length) ∧ w'.cell? ⟨pb, q, none⟩ = some (.int .i64 (K : Int))) (by kernel_rfl) ⟨m2, q2, m1, hcc⟩ (fun hHeld => ?_)
                      refine take_oneH 121 (i := 0) (v := .pointer (some ⟨w5.heap.size, 0, none⟩)) rfl rfl (by kernel_rfl) (by kernel_rfl) (by kernel_rfl) (fun _ _ _ h => h) (Or.inl ⟨by kernel_rfl, fun w hSw => by (go_simp)⟩) (by assumption) ?_
                      simp only [Act.put, List.setIfInBounds_toArray, List.set_cons_zero, List.set_cons_succ]
                      refine take_oneH 122 (i := 1) (v := .pointer (some ⟨w5.heap.size, 0, none⟩)) rfl rfl (by kernel_rfl) (by kernel_rfl) (by kernel_rfl) (fun _ _ _ h => h) (Or.inl ⟨by kernel_rfl, fun w hSw => by (go_simp)⟩) (by assumption) ?_
                      simp only [Act.put, List.setIfInBounds_toArray, List.set_cons_zero, List.set_cons_succ]
                      refine take_oneH 123 (i := 2) (v := .pointer (some ⟨w5.heap.size, 2, none⟩)) rfl rfl (by kernel_rfl) (by kernel_rfl) (by kernel_rfl) (fun _ _ _ h => h) (Or.inl ⟨by kernel_rfl, fun w hSw => by (go_simp)⟩) (by assumption) ?_
                      simp only [Act.put, List.setIfInBounds_toArray, List.set_cons_zero, List.set_cons_succ]
                      refine take_oneH 124 (i := 3) (v := .bool true) rfl rfl (by kernel_rfl) (by kernel_rfl) (by kernel_rfl) (fun _ _ _ h => h) (Or.inl ⟨by kernel_rfl, fun w hSw => by (go_simp)⟩) (by assumption) ?_
                      simp only [Act.put, List.setIfInBounds_toArray, List.set_cons_zero, List.set_cons_succ]
                      refine take_oneH 125 (i := 4) (v := .bool false) rfl rfl (by kernel_rfl) (by kernel_rfl) (by kernel_rfl) (fun _ _ _ h => h) (Or.inl ⟨by kernel_rfl, fun w hSw => by (go_simp)⟩) (by assumption) ?_
                      simp only [Act.put, List.setIfInBounds_toArray, List.set_cons_zero, List.set_cons_succ]
                      refine take_oneH 126 (i := 5) (v := .bool false) rfl rfl (by kernel_rfl) (by kernel_rfl) (by kernel_rfl) (fun _ _ _ h => h) (Or.inl ⟨by kernel_rfl, fun w hSw => by (go_simp)⟩) (by assumption) ?_
                      simp only [Act.put, List.setIfInBounds_toArray, List.set_cons_zero, List.set_cons_succ]
                      refine take_oneH 127 (i := 6) (v := .slice (some ⟨b, off, none⟩) l.length cap) rfl rfl (by kernel_rfl) (by kernel_rfl) (by kernel_rfl) (fun _ _ _ h => h) (Or.inl ⟨by kernel_rfl, fun w hSw => by (go_simp)⟩) (by assumption) ?_
                      simp only [Act.put, List.setIfInBounds_toArray, List.set_cons_zero, List.set_cons_succ]
                      refine take_oneH 128 (i := 7) (v := .int .i64 ((q : Nat) : Int)) rfl rfl (by kernel_rfl) (by kernel_rfl) (by kernel_rfl) (fun _ _ _ h => h) (Or.inl ⟨by kernel_rfl, fun w hSw => by (go_simp)⟩) (by assumption) ?_
                      simp only [Act.put, List.setIfInBounds_toArray, List.set_cons_zero, List.set_cons_succ]
                      refine take_oneH 129 (i := 8) (v := .pointer (some ⟨b, off + q * 4, none⟩)) rfl rfl (by kernel_rfl) (by kernel_rfl) (by kernel_rfl) (fun _ _ _ h => h) (Or.inl ⟨by kernel_rfl, fun w hSw => by (go_simp)⟩) (by assumption) ?_
                      simp only [Act.put, List.setIfInBounds_toArray, List.set_cons_zero, List.set_cons_succ]
                      refine take_oneH 130 (i := 9) (v := .pointer (some ⟨b, off + q * 4 + 2, none⟩)) rfl rfl (by kernel_rfl) (by kernel_rfl) (by kernel_rfl) (fun _ _ _ h => h) (Or.inl ⟨by kernel_rfl, fun w hSw => by (go_simp)⟩) (by assumption) ?_
                      simp only [Act.put, List.setIfInBounds_toArray, List.set_cons_zero, List.set_cons_succ]
                      refine take_oneH 131 (i := 10) (v := .int .i64 L) rfl rfl (by kernel_rfl) (by kernel_rfl) (by kernel_rfl) (fun _ _ _ h => h) (Or.inl ⟨by kernel_rfl, fun w hSw => by (go_simp)⟩) (by assumption) ?_
                      simp only [Act.put, List.setIfInBounds_toArray, List.set_cons_zero, List.set_cons_succ]
                      refine take_oneH 132 (i := 11) (v := .bool true) rfl rfl (by kernel_rfl) (by kernel_rfl) (by kernel_rfl) (fun _ _ _ h => h) (Or.inl ⟨by kernel_rfl, fun w hSw => by (go_simp)⟩) (by assumption) ?_
                      simp only [Act.put, List.setIfInBounds_toArray, List.set_cons_zero, List.set_cons_succ]
                      refine take_oneH 133 (i := 12) (v := .bool true) rfl rfl (by kernel_rfl) (by kernel_rfl) (by kernel_rfl) (fun _ _ _ h => h) (Or.inl ⟨by kernel_rfl, fun w hSw => by (go_simp)⟩) (by assumption) ?_
                      simp only [Act.put, List.setIfInBounds_toArray, List.set_cons_zero, List.set_cons_succ]
                      refine take_oneH 134 (i := 13) (v := .bool true) rfl rfl (by kernel_rfl) (by kernel_rfl) (by kernel_rfl) (fun _ _ _ h => h) (Or.inl ⟨by kernel_rfl, fun w hSw => by (go_simp)⟩) (by assumption) ?_
                      simp only [Act.put, List.setIfInBounds_toArray, List.set_cons_zero, List.set_cons_succ]
                      refine take_oneH 135 (i := 14) (v := undef) rfl rfl (by kernel_rfl) (by kernel_rfl) (by kernel_rfl) (fun _ _ _ h => h) (Or.inr ⟨by kernel_rfl, rfl⟩) (by assumption) ?_
                      simp only [Act.put, List.setIfInBounds_toArray, List.set_cons_zero, List.set_cons_succ]
                      refine take_oneH 136 (i := 15) (v := undef) rfl rfl (by kernel_rfl) (by kernel_rfl) (by kernel_rfl) (fun _ _ _ h => h) (Or.inr ⟨by kernel_rfl, rfl⟩) (by assumption) ?_
                      simp only [Act.put, List.setIfInBounds_toArray, List.set_cons_zero, List.set_cons_succ]
                      refine take_oneH 137 (i := 16) (v := undef) rfl rfl (by kernel_rfl) (by kernel_rfl) (by kernel_rfl) (fun _ _ _ h => h) (Or.inr ⟨by kernel_rfl, rfl⟩) (by assumption) ?_
                      simp only [Act.put, List.setIfInBounds_toArray, List.set_cons_zero, List.set_cons_succ]
                      refine take_oneH 138 (i := 17) (v := undef) rfl rfl (by kernel_rfl) (by kernel_rfl) (by kernel_rfl) (fun _ _ _ h => h) (Or.inr ⟨by kernel_rfl, rfl⟩) (by assumption) ?_
                      simp only [Act.put, List.setIfInBounds_toArray, List.set_cons_zero, List.set_cons_succ]
                      refine take_oneH 139 (i := 18) (v := undef) rfl rfl (by kernel_rfl) (by kernel_rfl) (by kernel_rfl) (fun _ _ _ h => h) (Or.inr ⟨by kernel_rfl, rfl⟩) (by assumption) ?_
                      simp only [Act.put, List.setIfInBounds_toArray, List.set_cons_zero, List.set_cons_succ]
                      refine take_oneH 140 (i := 19) (v := undef) rfl rfl (by kernel_rfl) (by kernel_rfl) (by kernel_rfl) (fun _ _ _ h => h) (Or.inr ⟨by kernel_rfl, rfl⟩) (by assumption) ?_
                      simp only [Act.put, List.setIfInBounds_toArray, List.set_cons_zero, List.set_cons_succ]
                      refine take_oneH 141 (i := 20) (v := undef) rfl rfl (by kernel_rfl) (by kernel_rfl) (by kernel_rfl) (fun _ _ _ h => h) (Or.inr ⟨by kernel_rfl, rfl⟩) (by assumption) ?_
                      simp only [Act.put, List.setIfInBounds_toArray, List.set_cons_zero, List.set_cons_succ]
                      refine take_oneH 142 (i := 21) (v := undef) rfl rfl (by kernel_rfl) (by kernel_rfl) (by kernel_rfl) (fun _ _ _ h => h) (Or.inr ⟨by kernel_rfl, rfl⟩) (by assumption) ?_
                      simp only [Act.put, List.setIfInBounds_toArray, List.set_cons_zero, List.set_cons_succ]
                      refine take_oneH 143 (i := 22) (v := undef) rfl rfl (by kernel_rfl) (by kernel_rfl) (by kernel_rfl) (fun _ _ _ h => h) (Or.inr ⟨by kernel_rfl, rfl⟩) (by assumption) ?_
                      simp only [Act.put, List.setIfInBounds_toArray, List.set_cons_zero, List.set_cons_succ]
                      refine take_oneH 144 (i := 23) (v := undef) rfl rfl (by kernel_rfl) (by kernel_rfl) (by kernel_rfl) (fun _ _ _ h => h) (Or.inr ⟨by kernel_rfl, rfl⟩) (by assumption) ?_
                      simp only [Act.put, List.setIfInBounds_toArray, List.set_cons_zero, List.set_cons_succ]
                      refine take_oneH 145 (i := 24) (v := undef) rfl rfl (by kernel_rfl) (by kernel_rfl) (by kernel_rfl) (fun _ _ _ h => h) (Or.inr ⟨by kernel_rfl, rfl⟩) (by assumption) ?_
                      simp only [Act.put, List.setIfInBounds_toArray, List.set_cons_zero, List.set_cons_succ]
                      refine take_oneH 146 (i := 25) (v := undef) rfl rfl (by kernel_rfl) (by kernel_rfl) (by kernel_rfl) (fun _ _ _ h => h) (Or.inr ⟨by kernel_rfl, rfl⟩) (by assumption) ?_
                      simp only [Act.put, List.setIfInBounds_toArray, List.set_cons_zero, List.set_cons_succ]
                      refine take_oneH 147 (i := 26) (v := undef) rfl rfl (by kernel_rfl) (by kernel_rfl) (by kernel_rfl) (fun _ _ _ h => h) (Or.inr ⟨by kernel_rfl, rfl⟩) (by assumption) ?_
                      simp only [Act.put, List.setIfInBounds_toArray, List.set_cons_zero, List.set_cons_succ]
                      refine take_oneH 148 (i := 27) (v := .bool true) rfl rfl (by kernel_rfl) (by kernel_rfl) (by kernel_rfl) (fun _ _ _ h => h) (Or.inl ⟨by kernel_rfl, fun w hSw => by (go_simp)⟩) (by assumption) ?_
                      simp only [Act.put, List.setIfInBounds_toArray, List.set_cons_zero, List.set_cons_succ]
                      refine wpAnyH_done (by kernel_rfl) ?_ _
                      clear hHeld m2 q2 m1 hcc
                      go_wp2
                      go_ret2
                      exact ⟨.inr ⟨HNO.out, rfl⟩, below_drewN HBX.out _⟩
                    by_cases hKL : (K : Int) = L
                    · as_aux_lemma =>
                      have HG := Lib.hid (HGO.out ⟨rfl, by omega, hKL⟩)
                      have k1 : ((K : Int) == L) = true := by simp [hKL]
                      have k2 : ((K : Int) != L) = false := by rw [bne, k1]; rfl
                      have hw2 := HW2.out
                      clear hKL
                      go_wp2_with fail
                      refine wp_region_held_drew (S := fun w' => w'.cell? ⟨w5.heap.size, 2, none⟩ = some (.bool true) ∧ w'.cell? ⟨b, off + q * 4 + 2, none⟩ = some (.int .i64 L) ∧ w'.cell? ⟨w5.heap.size, 1, none⟩ = some (.slice (some ⟨pb, 0, none⟩) l.length l.length) ∧ w'.cell? ⟨pb, q, none⟩ = some (.int .i64 (K : Int))) (by kernel_rfl) ⟨m2, q2, m1, hcc⟩ (fun hHeld => ?_)
                      refine take_oneH 121 (i := 0) (v := .pointer (some ⟨w5.heap.size, 0, none⟩)) rfl rfl (by kernel_rfl) (by kernel_rfl) (by kernel_rfl) (fun _ _ _ h => h) (Or.inl ⟨by kernel_rfl, fun w hSw => by (go_simp)⟩) (by assumption) ?_
                      simp only [Act.put, List.setIfInBounds_toArray, List.set_cons_zero, List.set_cons_succ]
                      refine take_oneH 122 (i := 1) (v := .pointer (some ⟨w5.heap.size, 0, none⟩)) rfl rfl (by kernel_rfl) (by kernel_rfl) (by kernel_rfl) (fun _ _ _ h => h) (Or.inl ⟨by kernel_rfl, fun w hSw => by (go_simp)⟩) (by assumption) ?_
                      simp only [Act.put, List.setIfInBounds_toArray, List.set_cons_zero, List.set_cons_succ]
                      refine take_oneH 123 (i := 2) (v := .pointer (some ⟨w5.heap.size, 2, none⟩)) rfl rfl (by kernel_rfl) (by kernel_rfl) (by kernel_rfl) (fun _ _ _ h => h) (Or.inl ⟨by kernel_rfl, fun w hSw => by (go_simp)⟩) (by assumption) ?_
                      simp only [Act.put, List.setIfInBounds_toArray, List.set_cons_zero, List.set_cons_succ]
                      refine take_oneH 124 (i := 3) (v := .bool true) rfl rfl (by kernel_rfl) (by kernel_rfl) (by kernel_rfl) (fun _ _ _ h => h) (Or.inl ⟨by kernel_rfl, fun w hSw => by (go_simp)⟩) (by assumption) ?_
                      simp only [Act.put, List.setIfInBounds_toArray, List.set_cons_zero, List.set_cons_succ]
                      refine take_oneH 125 (i := 4) (v := .bool false) rfl rfl (by kernel_rfl) (by kernel_rfl) (by kernel_rfl) (fun _ _ _ h => h) (Or.inl ⟨by kernel_rfl, fun w hSw => by (go_simp)⟩) (by assumption) ?_
                      simp only [Act.put, List.setIfInBounds_toArray, List.set_cons_zero, List.set_cons_succ]
                      refine take_oneH 126 (i := 5) (v := .bool false) rfl rfl (by kernel_rfl) (by kernel_rfl) (by kernel_rfl) (fun _ _ _ h => h) (Or.inl ⟨by kernel_rfl, fun w hSw => by (go_simp)⟩) (by assumption) ?_
                      simp only [Act.put, List.setIfInBounds_toArray, List.set_cons_zero, List.set_cons_succ]
                      refine take_oneH 127 (i := 6) (v := .slice (some ⟨b, off, none⟩) l.length cap) rfl rfl (by kernel_rfl) (by kernel_rfl) (by kernel_rfl) (fun _ _ _ h => h) (Or.inl ⟨by kernel_rfl, fun w hSw => by (go_simp)⟩) (by assumption) ?_
                      simp only [Act.put, List.setIfInBounds_toArray, List.set_cons_zero, List.set_cons_succ]
                      refine take_oneH 128 (i := 7) (v := .int .i64 ((q : Nat) : Int)) rfl rfl (by kernel_rfl) (by kernel_rfl) (by kernel_rfl) (fun _ _ _ h => h) (Or.inl ⟨by kernel_rfl, fun w hSw => by (go_simp)⟩) (by assumption) ?_
                      simp only [Act.put, List.setIfInBounds_toArray, List.set_cons_zero, List.set_cons_succ]
                      refine take_oneH 129 (i := 8) (v := .pointer (some ⟨b, off + q * 4, none⟩)) rfl rfl (by kernel_rfl) (by kernel_rfl) (by kernel_rfl) (fun _ _ _ h => h) (Or.inl ⟨by kernel_rfl, fun w hSw => by (go_simp)⟩) (by assumption) ?_
                      simp only [Act.put, List.setIfInBounds_toArray, List.set_cons_zero, List.set_cons_succ]
                      refine take_oneH 130 (i := 9) (v := .pointer (some ⟨b, off + q * 4 + 2, none⟩)) rfl rfl (by kernel_rfl) (by kernel_rfl) (by kernel_rfl) (fun _ _ _ h => h) (Or.inl ⟨by kernel_rfl, fun w hSw => by (go_simp)⟩) (by assumption) ?_
                      simp only [Act.put, List.setIfInBounds_toArray, List.set_cons_zero, List.set_cons_succ]
                      refine take_oneH 131 (i := 10) (v := .int .i64 L) rfl rfl (by kernel_rfl) (by kernel_rfl) (by kernel_rfl) (fun _ _ _ h => h) (Or.inl ⟨by kernel_rfl, fun w hSw => by (go_simp)⟩) (by assumption) ?_
                      simp only [Act.put, List.setIfInBounds_toArray, List.set_cons_zero, List.set_cons_succ]
                      refine take_oneH 132 (i := 11) (v := .bool false) rfl rfl (by kernel_rfl) (by kernel_rfl) (by kernel_rfl) (fun _ _ _ h => h) (Or.inl ⟨by kernel_rfl, fun w hSw => by (go_simp)⟩) (by assumption) ?_
                      simp only [Act.put, List.setIfInBounds_toArray, List.set_cons_zero, List.set_cons_succ]
                      refine take_oneH 133 (i := 12) (v := .bool false) rfl rfl (by kernel_rfl) (by kernel_rfl) (by kernel_rfl) (fun _ _ _ h => h) (Or.inl ⟨by kernel_rfl, fun w hSw => by (go_simp)⟩) (by assumption) ?_
                      simp only [Act.put, List.setIfInBounds_toArray, List.set_cons_zero, List.set_cons_succ]
                      refine take_oneH 134 (i := 13) (v := .bool false) rfl rfl (by kernel_rfl) (by kernel_rfl) (by kernel_rfl) (fun _ _ _ h => h) (Or.inl ⟨by kernel_rfl, fun w hSw => by (go_simp)⟩) (by assumption) ?_
                      simp only [Act.put, List.setIfInBounds_toArray, List.set_cons_zero, List.set_cons_succ]
                      refine take_oneH 135 (i := 14) (v := .pointer (some ⟨w5.heap.size, 0, none⟩)) rfl rfl (by kernel_rfl) (by kernel_rfl) (by kernel_rfl) (fun _ _ _ h => h) (Or.inl ⟨by kernel_rfl, fun w hSw => by (go_simp)⟩) (by assumption) ?_
                      simp only [Act.put, List.setIfInBounds_toArray, List.set_cons_zero, List.set_cons_succ]
                      refine take_oneH 136 (i := 15) (v := .pointer (some ⟨w5.heap.size, 0, none⟩)) rfl rfl (by kernel_rfl) (by kernel_rfl) (by kernel_rfl) (fun _ _ _ h => h) (Or.inl ⟨by kernel_rfl, fun w hSw => by (go_simp)⟩) (by assumption) ?_
                      simp only [Act.put, List.setIfInBounds_toArray, List.set_cons_zero, List.set_cons_succ]
                      refine take_oneH 137 (i := 16) (v := .pointer (some ⟨w5.heap.size, 1, none⟩)) rfl rfl (by kernel_rfl) (by kernel_rfl) (by kernel_rfl) (fun _ _ _ h => h) (Or.inl ⟨by kernel_rfl, fun w hSw => by (go_simp)⟩) (by assumption) ?_
                      simp only [Act.put, List.setIfInBounds_toArray, List.set_cons_zero, List.set_cons_succ]
                      refine take_oneH 138 (i := 17) (v := .slice (some ⟨pb, 0, none⟩) l.length l.length) rfl rfl (by kernel_rfl) (by kernel_rfl) (by kernel_rfl) (fun _ _ _ h => h) (Or.inl ⟨by kernel_rfl, fun w hSw => by (go_simp)⟩) (by assumption) ?_
                      simp only [Act.put, List.setIfInBounds_toArray, List.set_cons_zero, List.set_cons_succ]
                      refine take_oneH 139 (i := 18) (v := .int .i64 ((q : Nat) : Int)) rfl rfl (by kernel_rfl) (by kernel_rfl) (by kernel_rfl) (fun _ _ _ h => h) (Or.inl ⟨by kernel_rfl, fun w hSw => by (go_simp)⟩) (by assumption) ?_
                      simp only [Act.put, List.setIfInBounds_toArray, List.set_cons_zero, List.set_cons_succ]
                      refine take_oneH 140 (i := 19) (v := .pointer (some ⟨pb, q, none⟩)) rfl rfl (by kernel_rfl) (by kernel_rfl) (by kernel_rfl) (fun _ _ _ h => h) (Or.inl ⟨by kernel_rfl, fun w hSw => by (go_simp)⟩) (by assumption) ?_
                      simp only [Act.put, List.setIfInBounds_toArray, List.set_cons_zero, List.set_cons_succ]
                      refine take_oneH 141 (i := 20) (v := .int .i64 (K : Int)) rfl rfl (by kernel_rfl) (by kernel_rfl) (by kernel_rfl) (fun _ _ _ h => h) (Or.inl ⟨by kernel_rfl, fun w hSw => by (go_simp)⟩) (by assumption) ?_
                      simp only [Act.put, List.setIfInBounds_toArray, List.set_cons_zero, List.set_cons_succ]
                      refine take_oneH 142 (i := 21) (v := .slice (some ⟨b, off, none⟩) l.length cap) rfl rfl (by kernel_rfl) (by kernel_rfl) (by kernel_rfl) (fun _ _ _ h => h) (Or.inl ⟨by kernel_rfl, fun w hSw => by (go_simp)⟩) (by assumption) ?_
                      simp only [Act.put, List.setIfInBounds_toArray, List.set_cons_zero, List.set_cons_succ]
                      refine take_oneH 143 (i := 22) (v := .int .i64 ((q : Nat) : Int)) rfl rfl (by kernel_rfl) (by kernel_rfl) (by kernel_rfl) (fun _ _ _ h => h) (Or.inl ⟨by kernel_rfl, fun w hSw => by (go_simp)⟩) (by assumption) ?_
                      simp only [Act.put, List.setIfInBounds_toArray, List.set_cons_zero, List.set_cons_succ]
                      refine take_oneH 144 (i := 23) (v := .pointer (some ⟨b, off + q * 4, none⟩)) rfl rfl (by kernel_rfl) (by kernel_rfl) (by kernel_rfl) (fun _ _ _ h => h) (Or.inl ⟨by kernel_rfl, fun w hSw => by (go_simp)⟩) (by assumption) ?_
                      simp only [Act.put, List.setIfInBounds_toArray, List.set_cons_zero, List.set_cons_succ]
                      refine take_oneH 145 (i := 24) (v := .pointer (some ⟨b, off + q * 4 + 2, none⟩)) rfl rfl (by kernel_rfl) (by kernel_rfl) (by kernel_rfl) (fun _ _ _ h => h) (Or.inl ⟨by kernel_rfl, fun w hSw => by (go_simp)⟩) (by assumption) ?_
                      simp only [Act.put, List.setIfInBounds_toArray, List.set_cons_zero, List.set_cons_succ]
                      refine take_oneH 146 (i := 25) (v := .int .i64 L) rfl rfl (by kernel_rfl) (by kernel_rfl) (by kernel_rfl) (fun _ _ _ h => h) (Or.inl ⟨by kernel_rfl, fun w hSw => by (go_simp)⟩) (by assumption) ?_
                      simp only [Act.put, List.setIfInBounds_toArray, List.set_cons_zero, List.set_cons_succ]
                      refine take_oneH 147 (i := 26) (v := .bool false) rfl rfl (by kernel_rfl) (by kernel_rfl) (by kernel_rfl) (fun _ _ _ h => h) (Or.inl ⟨by kernel_rfl, fun w hSw => by (go_simp)⟩) (by assumption) ?_
                      simp only [Act.put, List.setIfInBounds_toArray, List.set_cons_zero, List.set_cons_succ]
                      refine take_oneH 148 (i := 27) (v := .bool false) rfl rfl (by kernel_rfl) (by kernel_rfl) (by kernel_rfl) (fun _ _ _ h => h) (Or.inl ⟨by kernel_rfl, fun w hSw => by (go_simp)⟩) (by assumption) ?_
                      simp only [Act.put, List.setIfInBounds_toArray, List.set_cons_zero, List.set_cons_succ]
                      refine wpAnyH_done (by kernel_rfl) ?_ _
                      clear hHeld m2 q2 m1 hcc
                      go_wp2
                      go_roundw
                      case rel => exact ⟨q + 1, by omega, HQL.out, (by first | exact num_up hw2 | rfl), HG, Lib.hid (below_drewN HBx.out _)⟩
                      case measure => first | exact meas_v HQL.out hw2 rfl rfl | exact meas_u HQL.out rfl rfl
                    · as_aux_lemma =>
                      have HNO := Lib.hid (HBAD.out (fun h => hKL h.2.2))
                      have k1 : ((K : Int) == L) = false := by simp [hKL]
                      have k2 : ((K : Int) != L) = true := by rw [bne, k1]; rfl
                      clear hKL
                      go_wp2_with fail
                      refine wp_region_held_drew (S := fun w' => w'.cell? ⟨w5.heap.size, 2, none⟩ = some (.bool true) ∧ w'.cell? ⟨b, off + q * 4 + 2, none⟩ = some (.int .i64 L) ∧ w'.cell? ⟨w5.heap.size, 1, none⟩ = some (.slice (some ⟨pb, 0, none⟩) l.length l.length) ∧ w'.cell? ⟨pb, q, none⟩ = some (.int .i64 (K : Int))) (by kernel_rfl) ⟨m2, q2, m1, hcc⟩ (fun hHeld => ?_)
                      refine take_oneH 121 (i := 0) (v := .pointer (some ⟨w5.heap.size, 0, none⟩)) rfl rfl (by kernel_rfl) (by kernel_rfl) (by kernel_rfl) (fun _ _ _ h => h) (Or.inl ⟨by kernel_rfl, fun w hSw => by (go_simp)⟩) (by assumption) ?_
                      simp only [Act.put, List.setIfInBounds_toArray, List.set_cons_zero, List.set_cons_succ]
                      refine take_oneH 122 (i := 1) (v := .pointer (some ⟨w5.heap.size, 0, none⟩)) rfl rfl (by kernel_rfl) (by kernel_rfl) (by kernel_rfl) (fun _ _ _ h => h) (Or.inl ⟨by kernel_rfl, fun w hSw => by (go_simp)⟩) (by assumption) ?_
                      simp only [Act.put, List.setIfInBounds_toArray, List.set_cons_zero, List.set_cons_succ]
                      refine take_oneH 123 (i := 2) (v := .pointer (some ⟨w5.heap.size, 2, none⟩)) rfl rfl (by kernel_rfl) (by kernel_rfl) (by kernel_rfl) (fun _ _ _ h => h) (Or.inl ⟨by kernel_rfl, fun w hSw => by (go_simp)⟩) (by assumption) ?_
                      simp only [Act.put, List.setIfInBounds_toArray, List.set_cons_zero, List.set_cons_succ]
                      refine take_oneH 124 (i := 3) (v := .bool true) rfl rfl (by kernel_rfl) (by kernel_rfl) (by kernel_rfl) (fun _ _ _ h => h) (Or.inl ⟨by kernel_rfl, fun w hSw => by (go_simp)⟩) (by assumption) ?_
                      simp only [Act.put, List.setIfInBounds_toArray, List.set_cons_zero, List.set_cons_succ]
                      refine take_oneH 125 (i := 4) (v := .bool false) rfl rfl (by kernel_rfl) (by kernel_rfl) (by kernel_rfl) (fun _ _ _ h => h) (Or.inl ⟨by kernel_rfl, fun w hSw => by (go_simp)⟩) (by assumption) ?_
                      simp only [Act.put, List.setIfInBounds_toArray, List.set_cons_zero, List.set_cons_succ]
                      refine take_oneH 126 (i := 5) (v := .bool false) rfl rfl (by kernel_rfl) (by kernel_rfl) (by kernel_rfl) (fun _ _ _ h => h) (Or.inl ⟨by kernel_rfl, fun w hSw => by (go_simp)⟩) (by assumption) ?_
                      simp only [Act.put, List.setIfInBounds_toArray, List.set_cons_zero, List.set_cons_succ]
                      refine take_oneH 127 (i := 6) (v := .slice (some ⟨b, off, none⟩) l.length cap) rfl rfl (by kernel_rfl) (by kernel_rfl) (by kernel_rfl) (fun _ _ _ h => h) (Or.inl ⟨by kernel_rfl, fun w hSw => by (go_simp)⟩) (by assumption) ?_
                      simp only [Act.put, List.setIfInBounds_toArray, List.set_cons_zero, List.set_cons_succ]
                      refine take_oneH 128 (i := 7) (v := .int .i64 ((q : Nat) : Int)) rfl rfl (by kernel_rfl) (by kernel_rfl) (by kernel_rfl) (fun _ _ _ h => h) (Or.inl ⟨by kernel_rfl, fun w hSw => by (go_simp)⟩) (by assumption) ?_
                      simp only [Act.put, List.setIfInBounds_toArray, List.set_cons_zero, List.set_cons_succ]
                      refine take_oneH 129 (i := 8) (v := .pointer (some ⟨b, off + q * 4, none⟩)) rfl rfl (by kernel_rfl) (by kernel_rfl) (by kernel_rfl) (fun _ _ _ h => h) (Or.inl ⟨by kernel_rfl, fun w hSw => by (go_simp)⟩) (by assumption) ?_
                      simp only [Act.put, List.setIfInBounds_toArray, List.set_cons_zero, List.set_cons_succ]
                      refine take_oneH 130 (i := 9) (v := .pointer (some ⟨b, off + q * 4 + 2, none⟩)) rfl rfl (by kernel_rfl) (by kernel_rfl) (by kernel_rfl) (fun _ _ _ h => h) (Or.inl ⟨by kernel_rfl, fun w hSw => by (go_simp)⟩) (by assumption) ?_
                      simp only [Act.put, List.setIfInBounds_toArray, List.set_cons_zero, List.set_cons_succ]
                      refine take_oneH 131 (i := 10) (v := .int .i64 L) rfl rfl (by kernel_rfl) (by kernel_rfl) (by kernel_rfl) (fun _ _ _ h => h) (Or.inl ⟨by kernel_rfl, fun w hSw => by (go_simp)⟩) (by assumption) ?_
                      simp only [Act.put, List.setIfInBounds_toArray, List.set_cons_zero, List.set_cons_succ]
                      refine take_oneH 132 (i := 11) (v := .bool false) rfl rfl (by kernel_rfl) (by kernel_rfl) (by kernel_rfl) (fun _ _ _ h => h) (Or.inl ⟨by kernel_rfl, fun w hSw => by (go_simp)⟩) (by assumption) ?_
                      simp only [Act.put, List.setIfInBounds_toArray, List.set_cons_zero, List.set_cons_succ]
                      refine take_oneH 133 (i := 12) (v := .bool false) rfl rfl (by kernel_rfl) (by kernel_rfl) (by kernel_rfl) (fun _ _ _ h => h) (Or.inl ⟨by kernel_rfl, fun w hSw => by (go_simp)⟩) (by assumption) ?_
                      simp only [Act.put, List.setIfInBounds_toArray, List.set_cons_zero, List.set_cons_succ]
                      refine take_oneH 134 (i := 13) (v := .bool false) rfl rfl (by kernel_rfl) (by kernel_rfl) (by kernel_rfl) (fun _ _ _ h => h) (Or.inl ⟨by kernel_rfl, fun w hSw => by (go_simp)⟩) (by assumption) ?_
                      simp only [Act.put, List.setIfInBounds_toArray, List.set_cons_zero, List.set_cons_succ]
                      refine take_oneH 135 (i := 14) (v := .pointer (some ⟨w5.heap.size, 0, none⟩)) rfl rfl (by kernel_rfl) (by kernel_rfl) (by kernel_rfl) (fun _ _ _ h => h) (Or.inl ⟨by kernel_rfl, fun w hSw => by (go_simp)⟩) (by assumption) ?_
                      simp only [Act.put, List.setIfInBounds_toArray, List.set_cons_zero, List.set_cons_succ]
                      refine take_oneH 136 (i := 15) (v := .pointer (some ⟨w5.heap.size, 0, none⟩)) rfl rfl (by kernel_rfl) (by kernel_rfl) (by kernel_rfl) (fun _ _ _ h => h) (Or.inl ⟨by kernel_rfl, fun w hSw => by (go_simp)⟩) (by assumption) ?_
                      simp only [Act.put, List.setIfInBounds_toArray, List.set_cons_zero, List.set_cons_succ]
                      refine take_oneH 137 (i := 16) (v := .pointer (some ⟨w5.heap.size, 1, none⟩)) rfl rfl (by kernel_rfl) (by kernel_rfl) (by kernel_rfl) (fun _ _ _ h => h) (Or.inl ⟨by kernel_rfl, fun w hSw => by (go_simp)⟩) (by assumption) ?_
                      simp only [Act.put, List.setIfInBounds_toArray, List.set_cons_zero, List.set_cons_succ]
                      refine take_oneH 138 (i := 17) (v := .slice (some ⟨pb, 0, none⟩) l.length l.length) rfl rfl (by kernel_rfl) (by kernel_rfl) (by kernel_rfl) (fun _ _ _ h => h) (Or.inl ⟨by kernel_rfl, fun w hSw => by (go_simp)⟩) (by assumption) ?_
                      simp only [Act.put, List.setIfInBounds_toArray, List.set_cons_zero, List.set_cons_succ]
                      refine take_oneH 139 (i := 18) (v := .int .i64 ((q : Nat) : Int)) rfl rfl (by kernel_rfl) (by kernel_rfl) (by kernel_rfl) (fun _ _ _ h => h) (Or.inl ⟨by kernel_rfl, fun w hSw => by (go_simp)⟩) (by assumption) ?_
                      simp only [Act.put, List.setIfInBounds_toArray, List.set_cons_zero, List.set_cons_succ]
                      refine take_oneH 140 (i := 19) (v := .pointer (some ⟨pb, q, none⟩)) rfl rfl (by kernel_rfl) (by kernel_rfl) (by kernel_rfl) (fun _ _ _ h => h) (Or.inl ⟨by kernel_rfl, fun w hSw => by (go_simp)⟩) (by assumption) ?_
                      simp only [Act.put, List.setIfInBounds_toArray, List.set_cons_zero, List.set_cons_succ]
                      refine take_oneH 141 (i := 20) (v := .int .i64 (K : Int)) rfl rfl (by kernel_rfl) (by kernel_rfl) (by kernel_rfl) (fun _ _ _ h => h) (Or.inl ⟨by kernel_rfl, fun w hSw => by (go_simp)⟩) (by assumption) ?_
                      simp only [Act.put, List.setIfInBounds_toArray, List.set_cons_zero, List.set_cons_succ]
                      refine take_oneH 142 (i := 21) (v := .slice (some ⟨b, off, none⟩) l.length cap) rfl rfl (by kernel_rfl) (by kernel_rfl) (by kernel_rfl) (fun _ _ _ h => h) (Or.inl ⟨by kernel_rfl, fun w hSw => by (go_simp)⟩) (by assumption) ?_
                      simp only [Act.put, List.setIfInBounds_toArray, List.set_cons_zero, List.set_cons_succ]
                      refine take_oneH 143 (i := 22) (v := .int .i64 ((q : Nat) : Int)) rfl rfl (by kernel_rfl) (by kernel_rfl) (by kernel_rfl) (fun _ _ _ h => h) (Or.inl ⟨by kernel_rfl, fun w hSw => by (go_simp)⟩) (by assumption) ?_
                      simp only [Act.put, List.setIfInBounds_toArray, List.set_cons_zero, List.set_cons_succ]
                      refine take_oneH 144 (i := 23) (v := .pointer (some ⟨b, off + q * 4, none⟩)) rfl rfl (by kernel_rfl) (by kernel_rfl) (by kernel_rfl) (fun _ _ _ h => h) (Or.inl ⟨by kernel_rfl, fun w hSw => by (go_simp)⟩) (by assumption) ?_
                      simp only [Act.put, List.setIfInBounds_toArray, List.set_cons_zero, List.set_cons_succ]
                      refine take_oneH 145 (i := 24) (v := .pointer (some ⟨b, off + q * 4 + 2, none⟩)) rfl rfl (by kernel_rfl) (by kernel_rfl) (by kernel_rfl) (fun _ _ _ h => h) (Or.inl ⟨by kernel_rfl, fun w hSw => by (go_simp)⟩) (by assumption) ?_
                      simp only [Act.put, List.setIfInBounds_toArray, List.set_cons_zero, List.set_cons_succ]
                      refine take_oneH 146 (i := 25) (v := .int .i64 L) rfl rfl (by kernel_rfl) (by kernel_rfl) (by kernel_rfl) (fun _ _ _ h => h) (Or.inl ⟨by kernel_rfl, fun w hSw => by (go_simp)⟩) (by assumption) ?_
                      simp only [Act.put, List.setIfInBounds_toArray, List.set_cons_zero, List.set_cons_succ]
                      refine take_oneH 147 (i := 26) (v := .bool true) rfl rfl (by kernel_rfl) (by kernel_rfl) (by kernel_rfl) (fun _ _ _ h => h) (Or.inl ⟨by kernel_rfl, fun w hSw => by (go_simp)⟩) (by assumption) ?_
                      simp only [Act.put, List.setIfInBounds_toArray, List.set_cons_zero, List.set_cons_succ]
                      refine take_oneH 148 (i := 27) (v := .bool true) rfl rfl (by kernel_rfl) (by kernel_rfl) (by kernel_rfl) (fun _ _ _ h => h) (Or.inl ⟨by kernel_rfl, fun w hSw => by (go_simp)⟩) (by assumption) ?_
                      simp only [Act.put, List.setIfInBounds_toArray, List.set_cons_zero, List.set_cons_succ]
                      refine wpAnyH_done (by kernel_rfl) ?_ _
                      clear hHeld m2 q2 m1 hcc
                      go_wp2
                      go_ret2
                      exact ⟨.inr ⟨HNO.out, rfl⟩, below_drewN HBX.out _⟩
                · have hqi : ¬ (q : Int) < (l.length : Int) := by omega
                  cases R2 with
                  | false => as_aux_lemma =>
                    have HNO := Lib.hid (show ∀ U, Good U → tolds U ≠ l from fun U hU e => by have := (HIFF.out.1 (HUNI.out U hU e)).1; cases this)
                    go_wp2
                    go_ret2
                    exact ⟨.inr ⟨HNO.out, rfl⟩, HBX.out⟩
                  | true => as_aux_lemma =>
                    have HYES := Lib.hid (show Good T ∧ tolds T = l from ⟨HIFF.out.2 ⟨rfl, fun x hx hx1 => by
                      obtain ⟨t, h1, h2, h3⟩ := HEX.out x hx hx1
                      exact (HQ.out t x h1 (by have := HTLL.out; omega) h3).2⟩, HLK.out.taken.all HTLL.out⟩)
                    go_wp2
                    go_ret2
                    exact ⟨.inl ⟨⟨T, HYES.out⟩, _, rfl⟩, HBX.out⟩
        · as_aux_lemma =>
          have e2 : (k0 == 1) = false := by simp [hk1]
          have e3 : (k0 != 1) = true := by simp [hk1]
          have HNO := Lib.hid (show ∀ T, Good T → tolds T ≠ l from fun T hT e => hk1 (HHEAD.out T hT e).2.2)
          subst hn1
          clear hk1
          go_wp2
          go_ret2
          exact ⟨.inr ⟨HNO.out, rfl⟩, HB3.out⟩
      | false => as_aux_lemma =>
        have HNO := Lib.hid (show ∀ T, Good T → tolds T ≠ l from fun T hT e => by have := (HHEAD.out T hT e).2.1; cases this)
        subst hn1
        go_wp2
        go_ret2
        exact ⟨.inr ⟨HNO.out, rfl⟩, HB3.out⟩
    · as_aux_lemma =>
      have e1 : (n0 == 1) = false := by simp [hn1]
      have e3 : (n0 != 1) = true := by simp [hn1]
      have HNO := Lib.hid (show ∀ T, Good T → tolds T ≠ l from fun T hT e => hn1 (HHEAD.out T hT e).1)
      clear hn1
      go_wp2
      go_ret2
      exact ⟨.inr ⟨HNO.out, rfl⟩, HB3.out⟩
end Go.Proofs.YtfncoojpommfcaaGreatDoor

