/-
  Lists of inodes, entries and snapshots at a world, and as arguments.
-/
import Derived.Test.YtffebghkmobeoaaGreatDoorTabMath
import Derived.Test.YtffebghkmobeoaaGreatDoorKitL
import Derived.Test.YtffebghkmobeoaaGreatDoorKitW
import Derived.Lib.SmallJoins
namespace Go.Proofs.YtffebghkmobeoaaGreatDoor
open Go.ChangeShapes Go.WideShapes Go.ChangeAt Go.RowKit Go

/-! ### Things as values, and in cells -/
def blobV (r s : Int) : Value := .agg #[.int .i64 r, .int .i64 s]
def inoV (x : Ino) : Value := .agg #[.int .i64 x.num, .bool x.dir, .int .i64 x.links, .int .i64 x.root, .int .i64 x.size]
def entV (x : Ent) : Value := .agg #[.string x.name, .int .i64 x.num]
def snpV (x : Snp) : Value := .agg #[.string x.name, .int .i64 x.id, .int .i64 x.plane, .int .i64 x.root, .int .i64 x.size]
def inoC (x : Ino) : List Value := [.int .i64 x.num, .bool x.dir, .int .i64 x.links, .int .i64 x.root, .int .i64 x.size]
def entC (x : Ent) : List Value := [.string x.name, .int .i64 x.num]
def snpC (x : Snp) : List Value := [.string x.name, .int .i64 x.id, .int .i64 x.plane, .int .i64 x.root, .int .i64 x.size]
/-- a list of things, each of k cells, at a world -/
def LstAt {T : Type} (f : T → List Value) (k : Nat) (W : World) (v : Value) (l : List T) : Prop :=
  ∃ a cap, v = .slice a l.length cap ∧ (l ≠ [] → ∃ b off, a = some ⟨b, off, none⟩ ∧ b < W.heap.size ∧ ∀ j (_ : j < l.length) (i : Nat) (_ : i < k), W.cell? ⟨b, off + j * k + i, none⟩ = (f l[j])[i]?)
theorem LstAt.same {T : Type} {f : T → List Value} {k : Nat} {W W' : World} {v : Value} {l : List T} (h : LstAt f k W v l) (hs : W.heap.size ≤ W'.heap.size) (hB : ∀ b off cap, v = .slice (some ⟨b, off, none⟩) l.length cap → b < W.heap.size → W'.heap[b]? = W.heap[b]?) : LstAt f k W' v l := by
  obtain ⟨a, cap, h1, h2⟩ := h
  refine ⟨a, cap, h1, fun hne => ?_⟩
  obtain ⟨b, off, e, hb, hc⟩ := h2 hne
  subst e
  refine ⟨b, off, rfl, Nat.lt_of_lt_of_le hb hs, fun j hj i hi => ?_⟩
  rw [World.cell?_of_block (w := W) (hB b off cap h1 hb)]
  exact hc j hj i hi
theorem LstAt.later {T : Type} {f : T → List Value} {k : Nat} {W W' : World} {v : Value} {l : List T} (h : LstAt f k W v l) (hB : Below W.heap.size W W') : LstAt f k W' v l :=
  h.same hB.size fun b _ _ _ hb => hB.block b hb
theorem LstAt.shape {T : Type} {f : T → List Value} {k : Nat} {W : World} {v : Value} {l : List T} (h : LstAt f k W v l) : ∃ a cap, v = .slice a l.length cap := ⟨h.choose, h.choose_spec.choose, h.choose_spec.choose_spec.1⟩

/-! ### As arguments -/
theorem cellsInt : Tryz.prog.cellsOf 3 = 1 := by kernel_rfl
theorem cellsBool : Tryz.prog.cellsOf 4 = 1 := by kernel_rfl
theorem cellsStr : Tryz.prog.cellsOf 9 = 1 := by kernel_rfl
theorem cellsBlob : Tryz.prog.cellsOf 33 = 2 := by kernel_rfl
theorem cellsIno : Tryz.prog.cellsOf 64 = 5 := by kernel_rfl
theorem cellsEnt : Tryz.prog.cellsOf 58 = 2 := by kernel_rfl
theorem cellsSnp : Tryz.prog.cellsOf 35 = 5 := by kernel_rfl
section
variable {H : Type} {enc : TypeId × Value → H} {W : World} {base : Nat} {v : Value} {d : DataW H} {p : List MemPlace}
theorem blob_fields : ∃ f0 f1 : Field, Tryz.prog.underlying 33 = some (.struct #[f0, f1]) ∧ f0.offset = 0 ∧ f1.offset = 1 ∧ f0.type = 3 ∧ f1.type = 3 :=
  ⟨_, _, Tryz.underlying33, rfl, rfl, rfl, rfl⟩
theorem ino_fields : ∃ f0 f1 f2 f3 : Field, Tryz.prog.underlying 64 = some (.struct #[f0, f1, f2, f3]) ∧ f0.offset = 0 ∧ f1.offset = 1 ∧ f2.offset = 2 ∧ f3.offset = 3 ∧ f0.type = 3 ∧ f1.type = 4 ∧ f2.type = 3 ∧ f3.type = 33 :=
  ⟨_, _, _, _, Tryz.underlying64, rfl, rfl, rfl, rfl, rfl, rfl, rfl, rfl⟩
theorem ent_fields : ∃ f0 f1 : Field, Tryz.prog.underlying 58 = some (.struct #[f0, f1]) ∧ f0.offset = 0 ∧ f1.offset = 1 ∧ f0.type = 9 ∧ f1.type = 3 :=
  ⟨_, _, Tryz.underlying58, rfl, rfl, rfl, rfl⟩
theorem snp_fields : ∃ f0 f1 f2 f3 : Field, Tryz.prog.underlying 35 = some (.struct #[f0, f1, f2, f3]) ∧ f0.offset = 0 ∧ f1.offset = 1 ∧ f2.offset = 2 ∧ f3.offset = 3 ∧ f0.type = 9 ∧ f1.type = 3 ∧ f2.type = 3 ∧ f3.type = 33 :=
  ⟨_, _, _, _, Tryz.underlying35, rfl, rfl, rfl, rfl, rfl, rfl, rfl, rfl⟩
def InoIn (x : Ino) : Prop := IntOk x.num ∧ IntOk x.links ∧ IntOk x.root ∧ IntOk x.size
def EntIn (x : Ent) : Prop := IntOk x.num ∧ x.name.size ≤ 140737488351232
def SnpIn (x : Snp) : Prop := IntOk x.id ∧ IntOk x.plane ∧ IntOk x.root ∧ IntOk x.size ∧ x.name.size ≤ 140737488351232
set_option maxRecDepth 100000 in
theorem blob_read {n : Nat} {cs : List Value} {x : DataW H × List MemPlace} {sp : Nat → Bool} {hd : Bool} {bb : Nat} (h : DataW.trod enc Tryz.prog W bb sp hd n 33 cs = some x) :
    ∃ r s : Int, cs = [.int .i64 r, .int .i64 s] ∧ IntOk r ∧ IntOk s := by
  obtain ⟨f0, f1, hu, o0, o1, t0, t1⟩ := blob_fields
  obtain ⟨xs, k, _, hx, hl, hxl, hf⟩ := DataW.trod_struct hu h
  rw [cellsBlob] at hl
  match xs, hxl, cs, hl with
  | [y0, y1], _, [v0, v1], _ =>
    have g0 := hf 0 f0 rfl
    have g1 := hf 1 f1 rfl
    rw [o0, t0, cellsInt] at g0
    rw [o1, t1, cellsInt] at g1
    obtain ⟨n0, e0, z0, r0⟩ := DataW.trod_int Tryz.underlying3 g0
    obtain ⟨n1, e1, z1, r1⟩ := DataW.trod_int Tryz.underlying3 g1
    simp at e0 e1
    exact ⟨n0, n1, by rw [e0, e1], int_range r0, int_range r1⟩
set_option maxRecDepth 100000 in
theorem ino_read {n : Nat} {cs : List Value} {x : DataW H × List MemPlace} {sp : Nat → Bool} {hd : Bool} {bb : Nat} (h : DataW.trod enc Tryz.prog W bb sp hd n 64 cs = some x) :
    ∃ q : Ino, cs = inoC q ∧ InoIn q := by
  obtain ⟨f0, f1, f2, f3, hu, o0, o1, o2, o3, t0, t1, t2, t3⟩ := ino_fields
  obtain ⟨xs, k, _, hx, hl, hxl, hf⟩ := DataW.trod_struct hu h
  rw [cellsIno] at hl
  match xs, hxl, cs, hl with
  | [y0, y1, y2, y3], _, [v0, v1, v2, v3, v4], _ =>
    have g0 := hf 0 f0 rfl
    have g1 := hf 1 f1 rfl
    have g2 := hf 2 f2 rfl
    have g3 := hf 3 f3 rfl
    rw [o0, t0, cellsInt] at g0
    rw [o1, t1, cellsBool] at g1
    rw [o2, t2, cellsInt] at g2
    rw [o3, t3, cellsBlob] at g3
    obtain ⟨n0, e0, z0, r0⟩ := DataW.trod_int Tryz.underlying3 g0
    obtain ⟨n1, e1, z1⟩ := DataW.trod_bool Tryz.underlying4 g1
    obtain ⟨n2, e2, z2, r2⟩ := DataW.trod_int Tryz.underlying3 g2
    obtain ⟨n3, n4, e3, r3, r4⟩ := blob_read g3
    simp at e0 e1 e2 e3
    exact ⟨⟨n0, n1, n2, n3, n4⟩, by rw [e0, e1, e2, e3.1, e3.2]; rfl, int_range r0, int_range r2, r3, r4⟩
set_option maxRecDepth 100000 in
theorem ent_read {n : Nat} {cs : List Value} {x : DataW H × List MemPlace} {sp : Nat → Bool} {hd : Bool} {bb : Nat} (h : DataW.trod enc Tryz.prog W bb sp hd n 58 cs = some x) :
    ∃ q : Ent, cs = entC q ∧ IntOk q.num ∧ q.name.data.toList.length ∈ DataW.weights Tryz.prog 58 x.1 := by
  obtain ⟨f0, f1, hu, o0, o1, t0, t1⟩ := ent_fields
  obtain ⟨xs, k, _, hx, hl, hxl, hf⟩ := DataW.trod_struct hu h
  rw [cellsEnt] at hl
  match xs, hxl, cs, hl with
  | [y0, y1], _, [v0, v1], _ =>
    have g0 := hf 0 f0 rfl
    have g1 := hf 1 f1 rfl
    rw [o0, t0, cellsStr] at g0
    rw [o1, t1, cellsInt] at g1
    obtain ⟨n0, e0, z0, _⟩ := DataW.trod_string Tryz.underlying9 g0
    obtain ⟨n1, e1, z1, r1⟩ := DataW.trod_int Tryz.underlying3 g1
    simp at e0 e1
    exact ⟨⟨n0, n1⟩, by rw [e0, e1]; rfl, int_range r1, by rw [hx]; simp only [DataW.weights, hu]; exact DataW.weights_mem_each (j := 0) (t := 9) (d := .lit (.string n0.data.toList)) (by simp [t0]) (by simp [z0]) _ (by simp [DataW.weights])⟩
set_option maxRecDepth 100000 in
theorem snp_read {n : Nat} {cs : List Value} {x : DataW H × List MemPlace} {sp : Nat → Bool} {hd : Bool} {bb : Nat} (h : DataW.trod enc Tryz.prog W bb sp hd n 35 cs = some x) :
    ∃ q : Snp, cs = snpC q ∧ (IntOk q.id ∧ IntOk q.plane ∧ IntOk q.root ∧ IntOk q.size) ∧ q.name.data.toList.length ∈ DataW.weights Tryz.prog 35 x.1 := by
  obtain ⟨f0, f1, f2, f3, hu, o0, o1, o2, o3, t0, t1, t2, t3⟩ := snp_fields
  obtain ⟨xs, k, _, hx, hl, hxl, hf⟩ := DataW.trod_struct hu h
  rw [cellsSnp] at hl
  match xs, hxl, cs, hl with
  | [y0, y1, y2, y3], _, [v0, v1, v2, v3, v4], _ =>
    have g0 := hf 0 f0 rfl
    have g1 := hf 1 f1 rfl
    have g2 := hf 2 f2 rfl
    have g3 := hf 3 f3 rfl
    rw [o0, t0, cellsStr] at g0
    rw [o1, t1, cellsInt] at g1
    rw [o2, t2, cellsInt] at g2
    rw [o3, t3, cellsBlob] at g3
    obtain ⟨n0, e0, z0, _⟩ := DataW.trod_string Tryz.underlying9 g0
    obtain ⟨n1, e1, z1, r1⟩ := DataW.trod_int Tryz.underlying3 g1
    obtain ⟨n2, e2, z2, r2⟩ := DataW.trod_int Tryz.underlying3 g2
    obtain ⟨n3, n4, e3, r3, r4⟩ := blob_read g3
    simp at e0 e1 e2 e3
    exact ⟨⟨n0, n1, n2, n3, n4⟩, by rw [e0, e1, e2, e3.1, e3.2]; rfl, ⟨int_range r1, int_range r2, r3, r4⟩, by rw [hx]; simp only [DataW.weights, hu]; exact DataW.weights_mem_each (j := 0) (t := 9) (d := .lit (.string n0.data.toList)) (by simp [t0]) (by simp [z0]) _ (by simp [DataW.weights])⟩
theorem weights_mem_all' {P : Program} {e : TypeId} {d : DataW H} {n : Nat} : ∀ {l : List (DataW H)}, d ∈ l → n ∈ d.weights P e → n ∈ DataW.weightsAll P e l
  | x :: r, hx, hn => by
    simp only [DataW.weightsAll, List.mem_append]
    rcases List.mem_cons.1 hx with rfl | h
    · exact .inl hn
    · exact .inr (weights_mem_all' h hn)

set_option maxRecDepth 100000 in
/-- a slice that came in, of things that are read so -/
theorem lst_trod {T : Type} (f : T → List Value) (k : Nat) (ok : T → Prop) (te ts : TypeId) (hts : Tryz.prog.underlying ts = some (.slice te)) (hk : Tryz.prog.cellsOf te = k) (hk0 : 0 < k) (hf : ∀ x, (f x).length = k)
    (hread : ∀ {n : Nat} {cs : List Value} {x : DataW H × List MemPlace} {sp : Nat → Bool} {hd : Bool} {bb : Nat}, DataW.trod enc Tryz.prog W bb sp hd n te cs = some x → (∀ m ∈ DataW.weights Tryz.prog te x.1, m ≤ reachBytes) → ∃ q : T, cs = f q ∧ ok q)
    {fuel : Nat} (hfu : DataW.trod enc Tryz.prog W 0 (fun _ => true) true fuel ts [v] = some (d, p)) (hlt : ∀ x ∈ p, x.block < W.heap.size)
    (hw : ∀ m ∈ DataW.weights Tryz.prog ts d, m ≤ reachBytes) :
    ∃ l : List T, LstAt f k W v l ∧ l.length ≤ 9223372036854775807 ∧ ∀ q ∈ l, ok q := by
  rcases Deep.open_slice hts hfu with ⟨hcs, hx⟩ | ⟨a, len, cap, m, n, D, Pl, hcs, hb, hl, hm, hmm, hx, hel⟩
  · simp at hcs
    exact ⟨[], ⟨none, 0, hcs, fun e => absurd rfl e⟩, by simp, by simp⟩
  · simp at hcs
    subst hcs
    by_cases hl0 : len = 0
    · subst hl0
      exact ⟨[], ⟨_, cap, rfl, fun e => absurd rfl e⟩, by simp, by simp⟩
    · simp only [Prod.mk.injEq] at hx
      obtain ⟨rfl, rfl⟩ := hx
      simp only [if_true] at hmm
      have each : ∀ i, i < len → ∃ q : T, (∀ j, j < k → W.cell? (a.add (i * k + j)) = (f q)[j]?) ∧ ok q := by
        intro i hi
        obtain ⟨cs', h1, h2⟩ := hel i (by omega)
        obtain ⟨q, rfl, hq⟩ := hread h2 (fun m hm => hw m (by
            simp only [DataW.weights, hts]
            exact List.mem_cons_of_mem _ (List.mem_append.2 (Or.inl (weights_mem_all' (List.mem_map.2 ⟨i, List.mem_range.2 hi, rfl⟩) hm)))))
        rw [hk] at h1
        obtain ⟨_, _, hc⟩ := World.cells?_some h1
        refine ⟨q, fun j hj => ?_, hq⟩
        have e := hc j (by omega)
        rw [Deep.add_add] at e
        exact e
      have inh : Inhabited T := ⟨(each 0 (by omega)).choose⟩
      obtain ⟨q, hq⟩ := Deep.choose_lt each
      obtain ⟨b, off, spot⟩ := a
      have hspot : spot = none := by
        have h := (hq 0 (by omega)).1 0 hk0
        rw [List.getElem?_eq_getElem (by rw [hf]; exact hk0)] at h
        simpa [Addr.add] using World.cell?_spot h
      subst hspot
      have hbW : b < W.heap.size := hlt (.cell b off) (List.mem_append_left _ (MemPlace.mem_row.2 ⟨0, by rw [hk]; exact Nat.mul_pos (by omega) hk0, by simp⟩))
      have hml : cap ≤ 9223372036854775807 := hm
      refine ⟨(List.range len).map q, ⟨_, cap, by simp, fun _ => ⟨b, off, rfl, hbW, fun j hj i hi => ?_⟩⟩, by simp; omega, fun x hx => ?_⟩
      rotate_left
      · obtain ⟨j, hj, rfl⟩ := List.mem_map.1 hx
        exact (hq j (by simpa using hj)).2
      have hj' : j < len := by simpa using hj
      have := (hq j hj').1 i hi
      rw [Addr.add_lit] at this
      simp only [List.getElem_map, List.getElem_range]
      rw [Nat.add_assoc]
      exact this
set_option maxRecDepth 100000 in
theorem lst_open {T : Type} (f : T → List Value) (k : Nat) (ok : T → Prop) (te ts : TypeId) (hts : Tryz.prog.underlying ts = some (.slice te)) (hk : Tryz.prog.cellsOf te = k) (hk0 : 0 < k) (hf : ∀ x, (f x).length = k)
    (hread : ∀ {n : Nat} {cs : List Value} {x : DataW H × List MemPlace} {sp : Nat → Bool} {hd : Bool} {bb : Nat}, DataW.trod enc Tryz.prog W bb sp hd n te cs = some x → (∀ m ∈ DataW.weights Tryz.prog te x.1, m ≤ reachBytes) → ∃ q : T, cs = f q ∧ ok q)
    (hval : Value.okWide Tryz.prog W .any base ts v) (h0 : DataW.Trod enc Tryz.prog W 0 (fun _ => true) true ts v d p) (hlt : ∀ x ∈ p, x.block < W.heap.size)
    (hw : ∀ m ∈ DataW.weights Tryz.prog ts d, m ≤ reachBytes) :
    ∃ l : List T, LstAt f k W v l ∧ l.length ≤ 9223372036854775807 ∧ ∀ q ∈ l, ok q := by
  obtain ⟨a0, len, cap, rfl⟩ := okWide_slice hts hval
  obtain ⟨fuel, hfu⟩ := h0
  exact lst_trod f k ok te ts hts hk hk0 hf hread hfu hlt hw
theorem ino_reads {n : Nat} {cs : List Value} {x : DataW H × List MemPlace} {sp : Nat → Bool} {hd : Bool} {bb : Nat} (h : DataW.trod enc Tryz.prog W bb sp hd n 64 cs = some x) (_ : ∀ m ∈ DataW.weights Tryz.prog 64 x.1, m ≤ reachBytes) : ∃ q : Ino, cs = inoC q ∧ InoIn q := ino_read h
theorem ent_reads {n : Nat} {cs : List Value} {x : DataW H × List MemPlace} {sp : Nat → Bool} {hd : Bool} {bb : Nat} (h : DataW.trod enc Tryz.prog W bb sp hd n 58 cs = some x) (hm : ∀ m ∈ DataW.weights Tryz.prog 58 x.1, m ≤ reachBytes) : ∃ q : Ent, cs = entC q ∧ EntIn q := by
  obtain ⟨q, e, h1, h2⟩ := ent_read h
  exact ⟨q, e, h1, reach_size (hm _ h2)⟩
theorem snp_reads {n : Nat} {cs : List Value} {x : DataW H × List MemPlace} {sp : Nat → Bool} {hd : Bool} {bb : Nat} (h : DataW.trod enc Tryz.prog W bb sp hd n 35 cs = some x) (hm : ∀ m ∈ DataW.weights Tryz.prog 35 x.1, m ≤ reachBytes) : ∃ q : Snp, cs = snpC q ∧ SnpIn q := by
  obtain ⟨q, e, h1, h2⟩ := snp_read h
  exact ⟨q, e, h1.1, h1.2.1, h1.2.2.1, h1.2.2.2, reach_size (hm _ h2)⟩
set_option maxRecDepth 100000 in
theorem inos_open (hval : Value.okWide Tryz.prog W .any base 65 v) (h0 : DataW.Trod enc Tryz.prog W 0 (fun _ => true) true 65 v d p) (hlt : ∀ x ∈ p, x.block < W.heap.size) (hw : ∀ m ∈ DataW.weights Tryz.prog 65 d, m ≤ reachBytes) :
    ∃ l : List Ino, LstAt inoC 5 W v l ∧ l.length ≤ 9223372036854775807 ∧ ∀ q ∈ l, InoIn q :=
  lst_open inoC 5 InoIn 64 65 Tryz.underlying65 cellsIno (by decide) (fun _ => rfl) ino_reads hval h0 hlt hw
set_option maxRecDepth 100000 in
theorem ents_open (hval : Value.okWide Tryz.prog W .any base 59 v) (h0 : DataW.Trod enc Tryz.prog W 0 (fun _ => true) true 59 v d p) (hlt : ∀ x ∈ p, x.block < W.heap.size) (hw : ∀ m ∈ DataW.weights Tryz.prog 59 d, m ≤ reachBytes) :
    ∃ l : List Ent, LstAt entC 2 W v l ∧ l.length ≤ 9223372036854775807 ∧ ∀ q ∈ l, EntIn q :=
  lst_open entC 2 EntIn 58 59 Tryz.underlying59 cellsEnt (by decide) (fun _ => rfl) ent_reads hval h0 hlt hw
set_option maxRecDepth 100000 in
theorem snps_open (hval : Value.okWide Tryz.prog W .any base 22 v) (h0 : DataW.Trod enc Tryz.prog W 0 (fun _ => true) true 22 v d p) (hlt : ∀ x ∈ p, x.block < W.heap.size) (hw : ∀ m ∈ DataW.weights Tryz.prog 22 d, m ≤ reachBytes) :
    ∃ l : List Snp, LstAt snpC 5 W v l ∧ l.length ≤ 9223372036854775807 ∧ ∀ q ∈ l, SnpIn q :=
  lst_open snpC 5 SnpIn 35 22 Tryz.underlying22 cellsSnp (by decide) (fun _ => rfl) snp_reads hval h0 hlt hw
end
end Go.Proofs.YtffebghkmobeoaaGreatDoor

