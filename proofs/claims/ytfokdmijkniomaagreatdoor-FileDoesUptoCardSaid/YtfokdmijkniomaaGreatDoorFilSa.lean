/-
  The document's tree: put, drop, named, on lists; its object, and what stays of it.
-/
import Derived.Test.YtfokdmijkniomaaGreatDoorRB
namespace Go.Proofs.YtfokdmijkniomaaGreatDoor
open Go.RowKit Go Go.Maps

/-! ### Lists that are put together anew -/
def putF (r : Nde) : Bool → List Nde → List Nde
  | d, [] => if d = true then [] else [r]
  | d, y :: A => (if d = false ∧ r.num ≤ y.num then [r] else []) ++ (if y.num = r.num then [] else [y]) ++ putF r (d || decide (r.num ≤ y.num)) A
theorem putF_true {r : Nde} : ∀ {A : List Nde}, (∀ y ∈ A, y.num ≠ r.num) → putF r true A = A
  | [], _ => rfl
  | y :: A, h => by
    rw [putF, if_neg (by simp), if_neg (h y (by simp)), Bool.true_or, putF_true fun z hz => h z (List.mem_cons_of_mem _ hz)]; rfl
theorem putF_is {x : Nod} : ∀ {T : List Nod}, RiseN T → putF (told x) false (tolds T) = tolds (putN x T)
  | [], _ => rfl
  | y :: T, hr => by
    obtain ⟨h1, h2⟩ := List.pairwise_cons.1 hr
    have ih := putF_is (x := x) h2
    have hn : ∀ z ∈ tolds T, y.num < z.num := fun z hz => by
      obtain ⟨u, hu, rfl⟩ := List.mem_map.1 hz
      have := h1 u hu
      simpa [ltI, told] using this
    show putF (told x) false (told y :: tolds T) = tolds (putK Nod.num ltI x (y :: T))
    rw [putF, putK]
    have ex : (told x).num = x.num := rfl
    have ey : (told y).num = y.num := rfl
    rw [ex, ey]
    by_cases hl : y.num < x.num
    · rw [if_neg (by omega), if_neg (by omega), if_pos (by simp [ltI, hl]), show (false || decide (x.num ≤ y.num)) = false by simp; omega, ih]
      rfl
    · have hle : x.num ≤ y.num := by omega
      rw [if_pos ⟨rfl, hle⟩, show (false || decide (x.num ≤ y.num)) = true by simp [hle], putF_true (fun z hz => by have := hn z hz; rw [ex]; omega)]
      by_cases he : y.num = x.num
      · simp only [he, if_true]; rw [if_neg (by simp [ltI])]; rfl
      · simp only [he, if_false]; rw [if_neg (by simp [ltI]; omega)]; rfl
def dropF (k : Int) (A : List Nde) : List Nde := A.filter fun y => decide (y.num ≠ k)
theorem dropF_is {k : Int} : ∀ {T : List Nod}, dropF k (tolds T) = tolds (dropN k T)
  | [] => rfl
  | y :: T => by
    have ih := dropF_is (k := k) (T := T)
    unfold dropF at ih ⊢
    show (told y :: tolds T).filter _ = tolds (dropK Nod.num k (y :: T))
    rw [dropK, List.filter_cons]
    have ey : (told y).num = y.num := rfl
    rw [ey]
    by_cases he : y.num = k
    · rw [if_neg (by simp [he]), if_pos he, ih]; rfl
    · rw [if_pos (by simp [he]), if_neg he, ih]; rfl
def namF (s : ByteArray) (k : Int) : Bool → List Ent → List Ent
  | d, [] => if d = true then [] else [⟨s, k⟩]
  | d, y :: l => (if d = false ∧ ltB s y.name = true then [⟨s, k⟩] else []) ++ (if y.name = s then [] else [y]) ++ namF s k (d || ltB s y.name) l
theorem namF_del {s : ByteArray} {k : Int} : ∀ {l : List Ent}, namF s k true l = delE s l
  | [] => rfl
  | y :: l => by
    rw [namF, if_neg (by simp), Bool.true_or, namF_del]
    unfold delE
    rw [dropK]
    by_cases he : y.name = s
    · rw [if_pos he, if_pos he]; rfl
    · rw [if_neg he, if_neg he]; rfl
theorem del_none {s : ByteArray} : ∀ {l : List Ent}, (∀ e ∈ l, e.name ≠ s) → delE s l = l
  | [], _ => rfl
  | y :: l, h => by
    have ih := del_none (s := s) (l := l) fun z hz => h z (List.mem_cons_of_mem _ hz)
    unfold delE at ih ⊢
    rw [dropK, if_neg (h y (by simp)), ih]
theorem namF_ins {s : ByteArray} {k : Int} : ∀ {l : List Ent}, RiseE l → (∀ e ∈ l, e.name ≠ s) → namF s k false l = insE s k l
  | [], _, _ => rfl
  | y :: l, hr, hn => by
    obtain ⟨h1, h2⟩ := List.pairwise_cons.1 hr
    have hy := hn y (by simp)
    have hl : ∀ e ∈ l, e.name ≠ s := fun e he => hn e (List.mem_cons_of_mem _ he)
    have ih := namF_ins (k := k) h2 hl
    unfold insE at ih ⊢
    rw [namF, putK]
    simp only
    rw [if_neg hy, if_neg hy]
    rcases ordB.tri y.name s with c | c | c
    · rw [if_pos c, ordB.asymm c, if_neg (by simp), Bool.false_or, ih]; rfl
    · exact absurd c hy
    · rw [if_pos ⟨trivial, c⟩, if_neg (by rw [ordB.asymm c]; simp), c, Bool.or_true, namF_del, del_none hl]; rfl
/-- nodes of which each directory's names may be laid -/
structure RawN (T : List Nod) : Prop where
  rise : RiseN T
  len : T.length ≤ 62
  dir : ∀ x ∈ T, x.dir = true → RiseE x.names ∧ x.names.length ≤ 61 ∧ ∀ e ∈ x.names, EntOk e
theorem Formed.rawN {T : List Nod} (h : Formed T) : RawN T := ⟨h.rise, by have := h.len; omega, fun x hx hd => ⟨(h.dir x hx hd).2.1, by have := (h.dir x hx hd).2.2.1; omega, fun e he => h.entOk hx he⟩⟩
theorem RawN.may {T : List Nod} (h : RawN T) {x : Nod} (hx : x ∈ T) (hd : x.dir = true) : May kE x.names := by
  obtain ⟨h1, h2, h3⟩ := h.dir x hx hd
  exact may_of_rise h1 (by omega) h3
theorem RawN.isL {T : List Nod} (h : RawN T) {x : Nod} (hx : x ∈ T) (hd : x.dir = true) : IsL kE (told x).data.data.toList x.names ∧ (told x).data.size ≤ 16384 ∧ x.names.length ≤ 61 := by
  have hm := h.may hx hd
  have h2 := (h.dir x hx hd).2.1
  show IsL kE (toldB x).data.toList x.names ∧ (toldB x).size ≤ 16384 ∧ _
  unfold toldB
  rw [if_pos hd, bs_list]
  have := laid_len (K := kE) (n := 20) (fun y hy => entEnc_len hy) hm
  exact ⟨⟨hm, rfl⟩, by rw [bs_size]; omega, h2⟩
theorem RawN.put {T : List Nod} (h : RawN T) {x : Nod} (hd : x.dir = true → RiseE x.names ∧ x.names.length ≤ 61 ∧ ∀ e ∈ x.names, EntOk e) (hl : (putN x T).length ≤ 62) : RawN (putN x T) :=
  ⟨h.rise.put x, hl, fun y hy hyd => by
    have := (h.rise.put x).at hy
    rw [at_put] at this
    split at this
    · cases this; exact hd hyd
    · exact h.dir y (at_mem this).1 hyd⟩
theorem look_free {l : List Ent} {s : ByteArray} (h : lookE l s = none) : ∀ e ∈ l, e.name ≠ s := seek_none.1 (look_none.1 h)

/-! ### The object -/
/-- the document's tree as it stands: lv is its list -/
structure RTIs (tb : Nat) (lv : Value) (T : List Nod) (w : World) : Prop where
  obj : w.heap[tb]? = some (RTObj lv)
  list : LstAt ndeC 4 w lv (tolds T)
  ne : ∀ off n cap, lv ≠ .slice (some ⟨tb, off, none⟩) n cap
def RFoot (tb : Nat) (lv : Value) (k : Nat) : Prop := k = tb ∨ ∃ off n cap, lv = .slice (some ⟨k, off, none⟩) n cap
section
variable {tb : Nat} {lv : Value} {T U : List Nod} {w w1 w' : World}
theorem RTIs.stay {F : Nat → Prop} (h : RTIs tb lv T w) (s : Stir F w w') (hF : ∀ k, RFoot tb lv k → ¬ F k) : RTIs tb lv T w' :=
  ⟨s.keep h.obj (hF tb (.inl rfl)), h.list.same s.size fun b off cap e hlt => s.block b hlt (hF b (.inr ⟨off, _, cap, e⟩)), h.ne⟩
theorem RTIs.later (h : RTIs tb lv T w) (hB : Below w.heap.size w w') : RTIs tb lv T w' := h.stay (Stir.of_below (F := fun _ => False) hB) fun _ _ f => f
theorem RTIs.drew (h : RTIs tb lv T w) : RTIs tb lv T w.drew := h.later ((Below.refl _ w).drew)
/-- what a call on it leaves: it alone was turned, its list is the old one or a new one -/
def RLeft (tb : Nat) (lv : Value) (T : List Nod) (w w' : World) : Prop := ∃ lv', RTIs tb lv' T w' ∧ Stir (fun i => i = tb) w w' ∧ ∀ k, RFoot tb lv' k → RFoot tb lv k ∨ w.heap.size ≤ k
theorem RLeft.same (h : RTIs tb lv T w) (hB : Below w.heap.size w w') : RLeft tb lv T w w' := ⟨lv, h.later hB, Stir.of_below hB, fun _ hk => .inl hk⟩
theorem RLeft.trans {lv1 : Value} (h1 : ∀ k, RFoot tb lv1 k → RFoot tb lv k ∨ w.heap.size ≤ k) (s : Stir (fun i => i = tb) w w1) (h : RLeft tb lv1 T w1 w') : RLeft tb lv T w w' := by
  obtain ⟨lv2, h2, s2, h3⟩ := h
  refine ⟨lv2, h2, s.trans s2 (fun i hi => .inl hi), fun k hk => ?_⟩
  rcases h3 k hk with h | h
  · exact h1 k h
  · exact .inr (Nat.le_trans s.size h)
theorem RLeft.start (hB : Below w.heap.size w w1) (h : RLeft tb lv T w1 w') : RLeft tb lv T w w' := .trans (fun _ hk => .inl hk) (Stir.of_below hB) h
/-- a new list in its place -/
theorem RTIs.put {v : Value} (h : RTIs tb lv T w) (hv : LstAt ndeC 4 w v (tolds U)) (hnew : ∀ b off n cap, v = .slice (some ⟨b, off, none⟩) n cap → b ≠ tb) : RTIs tb v U (w.setCell ⟨tb, 0, none⟩ v) := by
  have s : Stir (fun i => i = tb) w (w.setCell ⟨tb, 0, none⟩ v) := (Stir.refl (fun i => i = tb) w).set (.inl rfl) _
  exact ⟨by rw [heap_set h.obj]; rfl, hv.same s.size fun b off cap e hlt => s.block b hlt (hnew b off _ cap e), fun off n cap e => hnew tb off n cap e rfl⟩
theorem RTIs.lt (h : RTIs tb lv T w) : tb < w.heap.size := lt_of_heap h.obj
end
end Go.Proofs.YtfokdmijkniomaaGreatDoor

