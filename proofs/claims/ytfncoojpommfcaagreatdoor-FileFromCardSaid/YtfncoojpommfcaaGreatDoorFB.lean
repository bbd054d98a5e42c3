/-
  FilD / FilE / FilF / FilG.
-/
import Derived.Test.YtfncoojpommfcaaGreatDoorFA
namespace Go.Proofs.YtfncoojpommfcaaGreatDoor
open Go.RowKit Go

def NodeOk (x : Nod) : Prop := (1 ≤ x.num ∧ x.num ≤ 65535) ∧ (x.dir = false → x.names = [] ∧ x.data.size ≤ 16384) ∧
  (x.dir = true → x.data = ⟨#[]⟩ ∧ RiseE x.names ∧ x.names.length ≤ 60 ∧ ∀ e ∈ x.names, NameOk e.name)
section
variable {T U : List Nod}
theorem NodeOk.rise {x : Nod} (h : NodeOk x) : RiseE x.names := by
  cases hd : x.dir with
  | true => exact (h.2.2 hd).2.1
  | false => rw [(h.2.1 hd).1]; exact List.Pairwise.nil
theorem Formed.nodeOk (h : Formed T) {k : Int} {x : Nod} (hx : nodeAt T k = some x) : NodeOk x :=
  ⟨h.num x (at_mem hx).1, h.file x (at_mem hx).1, h.dir x (at_mem hx).1⟩
theorem Formed.of (hr : RiseN U) (hl : U.length ≤ 60) (hn : ∀ k x, nodeAt U k = some x → NodeOk x) (h1 : ∃ r, nodeAt U 1 = some r ∧ r.dir = true ∧ r.links = 1)
    (hk : ∀ k t j, stepE U k t = .ok j → j ≠ 1 ∧ ∃ y, nodeAt U j = some y)
    (hc : ∀ k x, nodeAt U k = some x → k ≠ 1 → x.links = cnt U k ∧ 1 ≤ x.links ∧ (x.dir = true → x.links = 1)) : Formed U :=
  ⟨hr, hl, fun x hx => (hn _ x (hr.at hx)).1, fun x hx => (hn _ x (hr.at hx)).2.1, fun x hx => (hn _ x (hr.at hx)).2.2, h1,
    fun x hx e he => by
      have ho := hn _ x (hr.at hx)
      have hd : x.dir = true := by
        cases hd : x.dir with
        | true => rfl
        | false => rw [(ho.2.1 hd).1] at he; cases he
      exact hk x.num e.name e.num (step_ok.2 ⟨x, hr.at hx, hd, ho.rise.look he⟩),
    fun x hx hne => hc _ x (hr.at hx) hne⟩
theorem nodeOk_del {x : Nod} (h : NodeOk x) (s : ByteArray) : NodeOk { x with names := delE s x.names } := by
  refine ⟨h.1, fun hd => ?_, fun hd => ?_⟩
  · have := h.2.1 hd
    exact ⟨by simp [this.1, delE, dropK], this.2⟩
  · obtain ⟨h1, h2, h3, h4⟩ := h.2.2 hd
    refine ⟨h1, h2.del s, ?_, fun e he => h4 e (mem_del.1 he).1⟩
    cases hl : lookE x.names s with
    | none =>
      have : delE s x.names = x.names := by
        refine RiseK.ext ordB (h2.del s) h2 fun j => ?_
        unfold delE
        rw [seek_drop]
        by_cases e : s = j
        · subst e; simp [look_none.1 hl]
        · simp [e]
      simpa [this] using h3
    | some k => have := del_len h2 hl; simp only; omega
theorem nodeOk_ins {x : Nod} (h : NodeOk x) (hd : x.dir = true) {s : ByteArray} (hs : NameOk s) (hn : lookE x.names s = none) (hl : x.names.length < 60) (k : Int) : NodeOk { x with names := insE s k x.names } := by
  refine ⟨h.1, fun hf => (by rw [show x.dir = false from hf] at hd; cases hd), fun _ => ?_⟩
  obtain ⟨h1, h2, h3, h4⟩ := h.2.2 hd
  refine ⟨h1, h2.ins s k, ?_, fun e he => ?_⟩
  · have := ins_len (k := k) h2 hn; simp only; omega
  · rcases mem_ins he with rfl | he
    · exact hs
    · exact h4 e he
theorem step_del {d : Int} {was : ByteArray} {x : Nod} (hx : nodeAt T d = some x) (k : Int) (t : ByteArray) (j : Int) :
    stepE (nameDel T d was) k t = .ok j ↔ stepE T k t = .ok j ∧ ¬ (k = d ∧ t = was) := by
  rw [step_ok, step_ok, at_nameDel hx]
  by_cases e : d = k
  · subst e
    rw [if_pos rfl]
    constructor
    · rintro ⟨y, hy, h1, h2⟩
      cases hy
      simp only [look_del] at h1 h2
      split at h2
      · cases h2
      · rename_i hn
        exact ⟨⟨x, hx, h1, h2⟩, fun c => hn c.2.symm⟩
    · rintro ⟨⟨y, hy, h1, h2⟩, h3⟩
      rw [hx] at hy; cases hy
      refine ⟨_, rfl, h1, ?_⟩
      simp only [look_del]
      rw [if_neg (fun c => h3 ⟨rfl, c.symm⟩)]; exact h2
  · rw [if_neg e]
    exact ⟨fun h => ⟨h, fun c => e c.1.symm⟩, fun h => h.1⟩
theorem step_put {p n : Int} {s : ByteArray} {x : Nod} (hx : nodeAt T p = some x) (hd : x.dir = true) (hn : lookE x.names s = none) (k : Int) (t : ByteArray) (j : Int) :
    stepE (namePut T p s n) k t = .ok j ↔ (k = p ∧ t = s ∧ j = n) ∨ stepE T k t = .ok j := by
  rw [step_ok, step_ok, at_namePut hx]
  by_cases e : p = k
  · subst e
    rw [if_pos rfl]
    constructor
    · rintro ⟨y, hy, h1, h2⟩
      cases hy
      simp only [look_ins] at h1 h2
      split at h2
      · rename_i e; cases h2; exact .inl ⟨rfl, e.symm, rfl⟩
      · exact .inr ⟨x, hx, h1, h2⟩
    · rintro (⟨_, rfl, rfl⟩ | ⟨y, hy, h1, h2⟩)
      · exact ⟨_, rfl, hd, by simp [look_ins]⟩
      · rw [hx] at hy; cases hy
        refine ⟨_, rfl, h1, ?_⟩
        simp only [look_ins]
        rw [if_neg (fun c => by subst c; rw [hn] at h2; cases h2)]; exact h2
  · rw [if_neg e]
    exact ⟨fun h => .inr h, fun h => h.resolve_left (fun c => e c.1.symm)⟩
/-- a node in the place of one, or of none, that has no names: the same steps -/
theorem step_leaf {y : Nod} (hy : y.names = []) (ho : ∀ x, nodeAt T y.num = some x → x.names = []) (k : Int) (t : ByteArray) (j : Int) : stepE (putN y T) k t = .ok j ↔ stepE T k t = .ok j := by
  rw [step_ok, step_ok, at_put]
  by_cases e : y.num = k
  · rw [if_pos e]
    constructor
    · rintro ⟨x, hx, _, h2⟩
      cases hx; rw [hy] at h2; cases h2
    · rintro ⟨x, hx, _, h2⟩
      rw [← e] at hx
      rw [ho x hx] at h2; cases h2
  · rw [if_neg e]
theorem step_drop {n : Int} (ho : ∀ x, nodeAt T n = some x → x.names = []) (k : Int) (t : ByteArray) (j : Int) : stepE (dropN n T) k t = .ok j ↔ stepE T k t = .ok j := by
  rw [step_ok, step_ok, at_drop]
  by_cases e : n = k
  · rw [if_pos e]
    constructor
    · rintro ⟨x, hx, _⟩; cases hx
    · rintro ⟨x, hx, _, h2⟩
      rw [← e] at hx
      rw [ho x hx] at h2; cases h2
  · rw [if_neg e]
theorem no_walk {n : Int} (ho : ∀ x, nodeAt T n = some x → x.names = []) {m : List ByteArray} {j : Int} (h : walkE T n m = .ok j) : m = [] ∧ j = n := by
  cases m with
  | nil => cases h; exact ⟨rfl, rfl⟩
  | cons s m =>
    rw [walkE] at h
    cases hs : stepE T n s with
    | error e => rw [hs] at h; cases h
    | ok i =>
      obtain ⟨x, hx, _, hl⟩ := step_ok.1 hs
      rw [ho x hx] at hl; cases hl
theorem walk_mono (h : ∀ k t j, stepE T k t = .ok j → stepE U k t = .ok j) : ∀ {l : List ByteArray} {k j : Int}, walkE T k l = .ok j → walkE U k l = .ok j
  | [], _, _, hw => hw
  | s :: l, k, j, hw => by
    rw [walkE] at hw ⊢
    cases hs : stepE T k s with
    | error e => rw [hs] at hw; cases hw
    | ok i =>
      rw [hs] at hw
      rw [h _ _ _ hs]
      exact walk_mono h hw
theorem IsPath.snoc_lt {s : ByteArray} {l a : List ByteArray} {t : ByteArray} (h : IsPath s l) (e : l = a ++ [t]) : a.length < 8 ∧ NameOk t := by
  have := h.2.1
  refine ⟨by rw [e] at this; simp at this; omega, h.1 t (by rw [e]; simp)⟩

/-- a leaf more, or a leaf's name more -/
theorem Good.grow (h : Good T) {a : List ByteArray} {p : Int} {s : ByteArray} {x y : Nod} (ha : walkE T 1 a = .ok p) (ha8 : a.length < 8) (hx : nodeAt T p = some x) (hd : x.dir = true) (hn : lookE x.names s = none) (hl : x.names.length < 60)
    (hs : NameOk s) (hy : NodeOk y) (hyn : y.names = []) (hy1 : y.num ≠ 1) (hyp : y.num ≠ p) (ho : ∀ z, nodeAt T y.num = some z → z.names = []) (hlen : (putN y T).length ≤ 60)
    (hlk : y.links = cnt T y.num + 1) (hdl : y.dir = true → y.links = 1) : Good (namePut (putN y T) p s y.num) := by
  have F := h.formed
  have r1 : RiseN (putN y T) := F.rise.put y
  have hx1 : nodeAt (putN y T) p = some x := by rw [at_put, if_neg hyp, hx]
  have hrx := F.riseE (at_mem hx).1
  have c1 : ∀ j, cnt (putN y T) j = cnt T j := fun j => by
    cases hz : nodeAt T y.num with
    | none => have := cnt_new F.rise hz j; rw [hyn] at this; simpa [cE, sumK] using this
    | some z => have := cnt_put F.rise hz j; rw [hyn, ho z hz] at this; simpa [cE, sumK] using this
  have st : ∀ k t j, stepE (namePut (putN y T) p s y.num) k t = .ok j ↔ (k = p ∧ t = s ∧ j = y.num) ∨ stepE T k t = .ok j := fun k t j => by
    rw [step_put hx1 hd hn, step_leaf hyn ho]
  have hat : ∀ k, nodeAt (namePut (putN y T) p s y.num) k = if p = k then some { x with names := insE s y.num x.names } else if y.num = k then some y else nodeAt T k := fun k => by
    rw [at_namePut hx1, at_put]
  have hnw : ∀ m, walkE T y.num m ≠ .ok p := fun m e => hyp (no_walk ho e).2.symm
  have G : Formed (namePut (putN y T) p s y.num) := by
    refine Formed.of (rise_namePut r1 _ _ _) (by rw [len_namePut r1 hx1]; exact hlen) (fun k z hz => ?_) ?_ (fun k t j hk => ?_) (fun k z hz hk => ?_)
    · rw [hat] at hz
      split at hz
      · cases hz; exact nodeOk_ins (F.nodeOk hx) hd hs hn hl _
      · split at hz
        · cases hz; exact hy
        · exact F.nodeOk hz
    · obtain ⟨r, h1, h2, h3⟩ := F.root
      rw [hat]
      by_cases e : p = 1
      · subst e; rw [hx] at h1; cases h1
        exact ⟨{ x with names := insE s y.num x.names }, by simp, h2, h3⟩
      · exact ⟨r, by rw [if_neg e, if_neg hy1, h1], h2, h3⟩
    · have ex : ∀ k z, nodeAt T k = some z → ∃ z', nodeAt (namePut (putN y T) p s y.num) k = some z' := fun k z hz => by
        rw [hat]; split
        · exact ⟨_, rfl⟩
        · split
          · exact ⟨_, rfl⟩
          · exact ⟨_, hz⟩
      rcases (st _ _ _).1 hk with ⟨_, _, rfl⟩ | hk
      · exact ⟨hy1, by rw [hat, if_neg (fun e => hyp e.symm), if_pos rfl]; exact ⟨_, rfl⟩⟩
      · obtain ⟨n1, z, hz⟩ := F.step_ne hk
        exact ⟨n1, ex _ z hz⟩
    · rw [cnt_namePut r1 hx1 hrx hn, c1]
      rw [hat] at hz
      split at hz
      · rename_i e
        cases hz
        have := F.links x (at_mem hx).1 (by rw [(at_mem hx).2, e]; exact hk)
        rw [(at_mem hx).2] at this
        subst e
        simp only
        rw [if_neg hyp]
        exact this
      · split at hz
        · rename_i e
          cases hz
          subst e
          rw [if_pos rfl]
          exact ⟨by simpa using hlk, by omega, hdl⟩
        · rename_i e
          rw [if_neg e]
          have := F.links z (at_mem hz).1 (by rw [(at_mem hz).2]; exact hk)
          rw [(at_mem hz).2] at this
          exact this
  have up : ∀ {l : List ByteArray} {k j : Int}, walkE T k l = .ok j → walkE (namePut (putN y T) p s y.num) k l = .ok j := fun hw => walk_mono (fun k t j h => (st k t j).2 (.inr h)) hw
  refine ⟨G, fun z hz hzd => ?_, fun l j hw => ?_⟩
  · have hz' := G.rise.at hz
    rw [hat] at hz'
    split at hz'
    · rename_i e
      exact ⟨a, by rw [← e]; exact up ha⟩
    · split at hz'
      · rename_i e
        exact ⟨a ++ [s], walk_snoc.2 ⟨p, up ha, (st _ _ _).2 (.inl ⟨rfl, rfl, e.symm⟩)⟩⟩
      · obtain ⟨l, hl⟩ := h.reach z (at_mem hz').1 hzd
        exact ⟨l, up hl⟩
  · rcases F.through ha hx hd hnw (fun k t j h => (st k t j).1 h) _ rfl hw with h1 | ⟨m, rfl, h1⟩
    · exact h.short l j h1
    · rw [(no_walk ho h1).1]
      simp; omega

/-- another name -/
theorem Good.moved (h : Good T) {a b : List ByteArray} {p d n : Int} {s was : ByteArray} {x : Nod} (hb : walkE T 1 b = .ok d) (hw : stepE T d was = .ok n) (ha : walkE T 1 a = .ok p) (hx : nodeAt T p = some x) (hd : x.dir = true)
    (hn : lookE x.names s = none) (hl : x.names.length < 60) (hs : NameOk s) (hp : ¬ (b ++ [was]) <+: a) (hdeep : ∀ m j, walkE T n m = .ok j → a.length + 1 + m.length ≤ 8) :
    Good (namePut (nameDel T d was) p s n) := by
  have F := h.formed
  obtain ⟨xd, hxd, dd, ld⟩ := step_ok.1 hw
  have hrd := F.riseE (at_mem hxd).1
  have r1 : RiseN (nameDel T d was) := rise_nameDel F.rise _ _
  obtain ⟨n1, xn, hxn⟩ := F.step_ne hw
  obtain ⟨x1, hx1, e1, e2, e3, e4, e5⟩ : ∃ x1, nodeAt (nameDel T d was) p = some x1 ∧ x1.dir = true ∧ lookE x1.names s = none ∧ x1.names.length < 60 ∧ NodeOk x1 ∧ Like x x1 := by
    rw [at_nameDel hxd]
    by_cases e : d = p
    · subst e
      rw [hxd] at hx; cases hx
      refine ⟨_, if_pos rfl, hd, ?_, ?_, nodeOk_del (F.nodeOk hxd) _, ⟨rfl, rfl, rfl, rfl⟩⟩
      · simp only [look_del]; split
        · rfl
        · exact hn
      · have := del_len hrd ld; simp only; omega
    · exact ⟨x, by rw [if_neg e, hx], hd, hn, hl, F.nodeOk hx, Like.refl x⟩
  have st : ∀ k t j, stepE (namePut (nameDel T d was) p s n) k t = .ok j ↔ (k = p ∧ t = s ∧ j = n) ∨ (stepE T k t = .ok j ∧ ¬ (k = d ∧ t = was)) := fun k t j => by
    rw [step_put hx1 e1 e2, step_del hxd]
  have c1 : ∀ j, cnt (namePut (nameDel T d was) p s n) j = cnt T j := fun j => by
    have h1 := cnt_namePut (k := n) r1 hx1 e4.rise e2 j
    have h2 := cnt_nameDel F.rise hxd hrd ld j
    omega
  have fw : ∀ k z, nodeAt T k = some z → ∃ z', nodeAt (namePut (nameDel T d was) p s n) k = some z' ∧ Like z z' := fun k z hz => by
    rw [at_namePut hx1]
    by_cases e : p = k
    · subst e
      rw [hx] at hz; cases hz
      exact ⟨_, if_pos rfl, ⟨e5.num, e5.dir, e5.links, e5.data⟩⟩
    · rw [if_neg e, at_nameDel hxd]
      by_cases e6 : d = k
      · subst e6
        rw [hxd] at hz; cases hz
        exact ⟨_, if_pos rfl, ⟨rfl, rfl, rfl, rfl⟩⟩
      · exact ⟨z, by rw [if_neg e6, hz], Like.refl z⟩
  have bw : ∀ k z', nodeAt (namePut (nameDel T d was) p s n) k = some z' → ∃ z, nodeAt T k = some z ∧ Like z z' := fun k z' hz => by
    cases hz0 : nodeAt T k with
    | some z =>
      obtain ⟨z2, h2, h3⟩ := fw k z hz0
      rw [h2] at hz; cases hz
      exact ⟨z, rfl, h3⟩
    | none =>
      rw [at_namePut hx1] at hz
      split at hz
      · rename_i e; rw [← e, hx] at hz0; cases hz0
      · rw [at_nameDel hxd] at hz
        split at hz
        · rename_i e; rw [← e, hxd] at hz0; cases hz0
        · rw [hz0] at hz; cases hz
  have hnb : ∀ m, walkE T n m ≠ .ok p := fun m e => by
    have w1 : walkE T 1 (b ++ [was] ++ m) = .ok p := by rw [walk_to (walk_snoc.2 ⟨d, hb, hw⟩)]; exact e
    have := F.path_uniq ha w1 hx hd
    exact hp ⟨m, this.symm⟩
  have G : Formed (namePut (nameDel T d was) p s n) := by
    refine Formed.of (rise_namePut r1 _ _ _) (by rw [len_namePut r1 hx1, len_nameDel F.rise hxd]; exact F.len) (fun k z hz => ?_) ?_ (fun k t j hk => ?_) (fun k z hz hk => ?_)
    · rw [at_namePut hx1] at hz
      split at hz
      · cases hz; exact nodeOk_ins e4 e1 hs e2 e3 _
      · rw [at_nameDel hxd] at hz
        split at hz
        · cases hz; exact nodeOk_del (F.nodeOk hxd) _
        · exact F.nodeOk hz
    · obtain ⟨r, h1, h2, h3⟩ := F.root
      obtain ⟨r', h4, h5⟩ := fw _ _ h1
      exact ⟨r', h4, h5.dir.trans h2, h5.links.trans h3⟩
    · rcases (st _ _ _).1 hk with ⟨_, _, rfl⟩ | ⟨hk, _⟩
      · obtain ⟨z, hz, _⟩ := fw _ _ hxn
        exact ⟨n1, z, hz⟩
      · obtain ⟨m1, z, hz⟩ := F.step_ne hk
        obtain ⟨z', hz', _⟩ := fw _ _ hz
        exact ⟨m1, z', hz'⟩
    · rw [c1]
      obtain ⟨z0, h0, h1⟩ := bw _ _ hz
      have := F.links z0 (at_mem h0).1 (by rw [(at_mem h0).2]; exact hk)
      rw [(at_mem h0).2] at this
      rw [h1.links, h1.dir]
      exact this
  have hup : walkE (namePut (nameDel T d was) p s n) 1 a = .ok p :=
    F.avoid hb hxd dd (fun k t j h1 h2 => (st k t j).2 (.inr ⟨h1, h2⟩)) _ rfl ha hp
  have keep : ∀ (c : Nat) {l : List ByteArray} {j : Int}, l.length = c → walkE T 1 l = .ok j → ∃ l', walkE (namePut (nameDel T d was) p s n) 1 l' = .ok j := by
    intro c
    induction c with
    | zero =>
      intro l j hc hl
      obtain rfl := List.eq_nil_of_length_eq_zero hc
      exact ⟨[], hl⟩
    | succ c ih =>
      intro l j hc hl
      rcases snoc_cases l with rfl | ⟨l, t, rfl⟩
      · simp at hc
      · obtain ⟨i, w1, s1⟩ := walk_snoc.1 hl
        obtain ⟨l', w2⟩ := ih (by simpa using hc) w1
        by_cases e : i = d ∧ t = was
        · obtain ⟨rfl, rfl⟩ := e
          rw [hw] at s1; cases s1
          exact ⟨a ++ [s], walk_snoc.2 ⟨p, hup, (st _ _ _).2 (.inl ⟨rfl, rfl, rfl⟩)⟩⟩
        · exact ⟨l' ++ [t], walk_snoc.2 ⟨i, w2, (st _ _ _).2 (.inr ⟨s1, e⟩)⟩⟩
  refine ⟨G, fun z hz hzd => ?_, fun l j hl => ?_⟩
  · obtain ⟨z0, h0, h1⟩ := bw _ _ (G.rise.at hz)
    obtain ⟨l, hl⟩ := h.reach z0 (at_mem h0).1 (by rw [← h1.dir]; exact hzd)
    rw [← h1.num] at hl
    exact keep _ rfl hl
  · rcases F.through ha hx hd hnb (fun k t j h => ((st k t j).1 h).imp id (fun c => c.1)) _ rfl hl with h1 | ⟨m, rfl, h1⟩
    · exact h.short l j h1
    · have := hdeep m j h1
      simp; omega

/-- a leaf's name less, or a leaf less -/
theorem Good.less (h : Good T) {b : List ByteArray} {d : Int} {was : ByteArray} {x : Nod} (hb : walkE T 1 b = .ok d) (hw : stepE T d was = .ok x.num) (hx : nodeAt T x.num = some x) (hn : x.names = []) :
    Good (if x.links - 1 = 0 then dropN x.num (nameDel T d was) else putN { x with links := x.links - 1 } (nameDel T d was)) := by
  have F := h.formed
  obtain ⟨xd, hxd, dd, ld⟩ := step_ok.1 hw
  have hrd := F.riseE (at_mem hxd).1
  have r1 : RiseN (nameDel T d was) := rise_nameDel F.rise _ _
  obtain ⟨n1, _, _⟩ := F.step_ne hw
  have hdn : d ≠ x.num := fun e => by rw [e, hx] at hxd; cases hxd; rw [hn] at ld; cases ld
  have hx1 : nodeAt (nameDel T d was) x.num = some x := by rw [at_nameDel hxd, if_neg hdn, hx]
  have hlk := F.links x (at_mem hx).1 n1
  obtain ⟨U, hU⟩ : ∃ U, (if x.links - 1 = 0 then dropN x.num (nameDel T d was) else putN { x with links := x.links - 1 } (nameDel T d was)) = U := ⟨_, rfl⟩
  have hr : RiseN U := by rw [← hU]; split; exact r1.drop _; exact r1.put _
  have hat : ∀ k, nodeAt U k = if x.num = k then (if x.links - 1 = 0 then none else some { x with links := x.links - 1 }) else if d = k then some { xd with names := delE was xd.names } else nodeAt T k := fun k => by
    rw [← hU]
    split
    · rename_i e
      rw [at_drop, at_nameDel hxd]
    · rename_i e
      rw [at_put, at_nameDel hxd]
  have c1 : ∀ j, cnt U j + (if x.num = j then 1 else 0) = cnt T j := fun j => by
    have h1 := cnt_nameDel F.rise hxd hrd ld j
    have h2 : cnt U j = cnt (nameDel T d was) j := by
      rw [← hU]
      split
      · have := cnt_drop r1 hx1 j; rw [hn] at this; simpa [cE, sumK] using this
      · have := cnt_put (x := { x with links := x.links - 1 }) r1 (y := x) hx1 j; rw [hn] at this; simpa [cE, sumK, hn] using this
    omega
  have st : ∀ k t j, stepE U k t = .ok j ↔ stepE T k t = .ok j ∧ ¬ (k = d ∧ t = was) := fun k t j => by
    have ho : ∀ z, nodeAt (nameDel T d was) x.num = some z → z.names = [] := fun z hz => by rw [hx1] at hz; cases hz; exact hn
    rw [← step_del hxd, ← hU]
    split
    · exact step_drop ho k t j
    · exact step_leaf (y := { x with links := x.links - 1 }) hn ho k t j
  have hlen : U.length ≤ 60 := by
    have h1 := F.len
    have h2 := len_nameDel (s := was) F.rise hxd
    rw [← hU]
    split
    · have := lenN_drop r1 hx1; omega
    · rw [lenN_put (x := { x with links := x.links - 1 }) r1 (y := x) hx1]; omega
  rw [hU]
  have G : Formed U := by
    refine Formed.of hr hlen (fun k z hz => ?_) ?_ (fun k t j hk => ?_) (fun k z hz hk => ?_)
    · rw [hat] at hz
      split at hz
      · split at hz
        · cases hz
        · cases hz
          have := F.nodeOk hx
          exact this
      · split at hz
        · cases hz; exact nodeOk_del (F.nodeOk hxd) _
        · exact F.nodeOk hz
    · obtain ⟨r, h1, h2, h3⟩ := F.root
      rw [hat, if_neg n1]
      by_cases e : d = 1
      · subst e; rw [hxd] at h1; cases h1
        exact ⟨{ xd with names := delE was xd.names }, by simp, h2, h3⟩
      · exact ⟨r, by rw [if_neg e, h1], h2, h3⟩
    · obtain ⟨hk1, hk2⟩ := (st _ _ _).1 hk
      obtain ⟨m1, z, hz⟩ := F.step_ne hk1
      refine ⟨m1, ?_⟩
      rw [hat]
      by_cases e : x.num = j
      · rw [if_pos e]
        by_cases e2 : x.links - 1 = 0
        · exfalso
          obtain ⟨y, hy, _, hl⟩ := step_ok.1 hk
          have p1 := c_pos (look_mem hl)
          have p2 : cE y.names j ≤ cnt U j := sum_mem (f := fun x => cE x.names j) (at_mem hy).1
          have p3 := c1 j
          rw [if_pos e] at p3
          rw [e] at hlk
          simp only at p1
          omega
        · rw [if_neg e2]; exact ⟨_, rfl⟩
      · rw [if_neg e]
        split
        · exact ⟨_, rfl⟩
        · exact ⟨z, hz⟩
    · have p3 := c1 k
      rw [hat] at hz
      split at hz
      · rename_i e
        rw [if_pos e] at p3
        rw [e] at hlk
        split at hz
        · cases hz
        · cases hz
          refine ⟨?_, ?_, fun hd => ?_⟩ <;> simp only at * <;> first | omega | (have := hlk.2.2 hd; omega)
      · rename_i e
        rw [if_neg e] at p3
        split at hz
        · rename_i e2
          cases hz
          have := F.links xd (at_mem hxd).1 (by rw [(at_mem hxd).2, e2]; exact hk)
          rw [(at_mem hxd).2, e2] at this
          simp only
          rw [show cnt U k = cnt T k by omega]; exact this
        · have := F.links z (at_mem hz).1 (by rw [(at_mem hz).2]; exact hk)
          rw [(at_mem hz).2] at this
          rw [show cnt U k = cnt T k by omega]; exact this
  refine ⟨G, fun z hz hzd => ?_, fun l j hl => h.short l j (walk_mono (fun k t j h => ((st k t j).1 h).1) hl)⟩
  have hz' := G.rise.at hz
  have hzn : z.num ≠ x.num := fun e => by
    rw [hat, if_pos e.symm] at hz'
    split at hz'
    · cases hz'
    · rename_i e2
      cases hz'
      have := hlk.2.2 hzd
      omega
  obtain ⟨z0, h0, h1, h2⟩ : ∃ z0, nodeAt T z.num = some z0 ∧ z0.num = z.num ∧ z0.dir = true := by
    rw [hat, if_neg (fun e => hzn e.symm)] at hz'
    split at hz'
    · rename_i e
      have e3 := congrArg Nod.dir (Option.some.inj hz')
      exact ⟨xd, by rw [← e, hxd], by rw [← e, (at_mem hxd).2], by simp only at e3; rw [e3]; exact hzd⟩
    · exact ⟨z, hz', rfl, hzd⟩
  obtain ⟨l, hl⟩ := h.reach z0 (at_mem h0).1 h2
  rw [h1] at hl
  refine ⟨l, F.avoid hb hxd dd (fun k t j h1 h2 => (st k t j).2 ⟨h1, h2⟩) _ rfl hl ?_⟩
  rintro ⟨m, rfl⟩
  rw [walk_to (walk_snoc.2 ⟨d, hb, hw⟩)] at hl
  exact hzn (no_walk (fun y hy => by rw [hx] at hy; cases hy; exact hn) hl).2

/-- other bytes -/
theorem Good.data (h : Good T) {x : Nod} (hx : nodeAt T x.num = some x) (hd : x.dir = false) {s : ByteArray} (hs : s.size ≤ 16384) : Good (putN { x with data := s } T) := by
  have F := h.formed
  have ho := F.nodeOk hx
  have hn := (ho.2.1 hd).1
  have hat : ∀ k, nodeAt (putN { x with data := s } T) k = if x.num = k then some { x with data := s } else nodeAt T k := fun k => at_put _ _ _
  have st : ∀ k t j, stepE (putN { x with data := s } T) k t = .ok j ↔ stepE T k t = .ok j :=
    fun k t j => step_leaf (y := { x with data := s }) hn (fun z hz => by simp only at hz; rw [hx] at hz; cases hz; exact hn) k t j
  have c1 : ∀ j, cnt (putN { x with data := s } T) j = cnt T j := fun j => by
    have := cnt_put (x := { x with data := s }) F.rise (y := x) hx j; simp only at this; omega
  have ex : ∀ k z, nodeAt T k = some z → ∃ z', nodeAt (putN { x with data := s } T) k = some z' ∧ z'.dir = z.dir ∧ z'.links = z.links := fun k z hz => by
    rw [hat]
    split
    · rename_i e
      rw [← e, hx] at hz; cases hz
      exact ⟨_, rfl, rfl, rfl⟩
    · exact ⟨z, hz, rfl, rfl⟩
  have G : Formed (putN { x with data := s } T) := by
    refine Formed.of (F.rise.put _) (by rw [lenN_put (x := { x with data := s }) F.rise (y := x) hx]; exact F.len) (fun k z hz => ?_) ?_ (fun k t j hk => ?_) (fun k z hz hk => ?_)
    · rw [hat] at hz
      split at hz
      · cases hz
        exact ⟨ho.1, fun _ => ⟨hn, hs⟩, fun e => by simp only at e; rw [hd] at e; cases e⟩
      · exact F.nodeOk hz
    · obtain ⟨r, h1, h2, h3⟩ := F.root
      obtain ⟨r', h4, h5, h6⟩ := ex _ _ h1
      exact ⟨r', h4, h5.trans h2, h6.trans h3⟩
    · obtain ⟨m1, z, hz⟩ := F.step_ne ((st _ _ _).1 hk)
      obtain ⟨z', hz', _⟩ := ex _ _ hz
      exact ⟨m1, z', hz'⟩
    · rw [c1]
      rw [hat] at hz
      split at hz
      · rename_i e
        cases hz
        have := F.links x (at_mem hx).1 (by rw [e]; exact hk)
        rw [e] at this
        exact this
      · have := F.links z (at_mem hz).1 (by rw [(at_mem hz).2]; exact hk)
        rw [(at_mem hz).2] at this
        exact this
  refine ⟨G, fun z hz hzd => ?_, fun l j hl => h.short l j (walk_mono (fun k t j h => (st k t j).1 h) hl)⟩
  have hz' := G.rise.at hz
  rw [hat] at hz'
  split at hz'
  · have := congrArg Nod.dir (Option.some.inj hz')
    simp only at this; rw [hd, hzd] at this; cases this
  · obtain ⟨l, hl⟩ := h.reach z (at_mem hz').1 hzd
    exact ⟨l, walk_mono (fun k t j h => (st k t j).2 h) hl⟩
end
end Go.Proofs.YtfncoojpommfcaaGreatDoor

namespace Go.Proofs.YtfncoojpommfcaaGreatDoor
open Go.RowKit Go

section
variable {T : List Nod}
theorem Good.fits (h : Good T) {l : List ByteArray} {k : Int} (hw : walkE T 1 l = .ok k) : Fits T (8 - l.length) k := fun m j hm => by
  have := h.short (l ++ m) j (by rw [walk_to hw]; exact hm)
  simp at this; omega
theorem Fits.mono {f g : Nat} {k : Int} (h : Fits T f k) (hg : f ≤ g) : Fits T g k := fun m j hm => Nat.le_trans (h m j hm) hg
theorem Good.fits8 (h : Good T) {l : List ByteArray} {k : Int} (hw : walkE T 1 l = .ok k) : Fits T 8 k := (h.fits hw).mono (by omega)
theorem Formed.riseAll (h : Formed T) : ∀ x ∈ T, RiseE x.names := fun _ hx => h.riseE hx
theorem Good.make (h : Good T) {s : ByteArray} {l : List ByteArray} (hp : IsPath s l) (dir : Bool) : Good (makeV T l dir).1 := by
  unfold makeV
  split
  · exact h
  · rename_i p t hpl
    split
    · exact h
    · rename_i hlen
      obtain ⟨el, hw, x, hx, hd, hn, hl⟩ := placeE_ok hpl
      obtain ⟨a8, ht⟩ := hp.snoc_lt el
      have hf := free_is h.formed.rise
      have hf2 := free_le h.formed.rise
      have := h.formed.len
      refine h.grow (y := ⟨freeV T, dir, 1, ⟨#[]⟩, []⟩) hw a8 hx hd hn hl ht ?_ rfl ?_ ?_ ?_ ?_ ?_ ?_
      · refine ⟨⟨by have := hf.two; simp only; omega, by simp only; omega⟩, fun _ => ⟨rfl, ?_⟩, fun _ => ⟨rfl, List.Pairwise.nil, by simp, by simp⟩⟩
        show (0 : Nat) ≤ 16384
        omega
      · have := hf.two; simp only; omega
      · intro e
        simp only at e
        have := hf.none
        rw [e, hx] at this; cases this
      · intro z hz
        simp only at hz
        rw [hf.none] at hz; cases hz
      · rw [lenN_new h.formed.rise hf.none]; omega
      · simp only; rw [h.formed.cnt_none hf.none]; rfl
      · intro _; rfl
theorem Good.link (h : Good T) {s : ByteArray} {l m : List ByteArray} (hp : IsPath s m) : Good (linkV T l m).1 := by
  unfold linkV
  split
  · exact h
  · rename_i x hx0
    obtain ⟨hx1, xf⟩ := fileE_ok hx0
    obtain ⟨_, hx⟩ := findE_ok hx1
    split
    · exact h
    · rename_i p t hpl
      obtain ⟨el, hw, y, hy, hd, hn, hl⟩ := placeE_ok hpl
      obtain ⟨a8, ht⟩ := hp.snoc_lt el
      have F := h.formed
      have ho := F.nodeOk hx
      have hxn := (ho.2.1 xf).1
      have h1 : x.num ≠ 1 := fun e => by
        obtain ⟨r, hr, hrd, _⟩ := F.root
        rw [← e, hx] at hr; cases hr; rw [xf] at hrd; cases hrd
      refine h.grow (y := { x with links := x.links + 1 }) hw a8 hy hd hn hl ht ho hxn h1 ?_ ?_ ?_ ?_ ?_
      · intro e
        simp only at e
        rw [← e, hx] at hy; cases hy; rw [xf] at hd; cases hd
      · intro z hz
        simp only at hz
        rw [hx] at hz; cases hz; exact hxn
      · rw [lenN_put (x := { x with links := x.links + 1 }) F.rise (y := x) hx]; exact F.len
      · have := (F.links x (at_mem hx).1 h1).1
        simp only
        omega
      · intro e; simp only at e; rw [xf] at e; cases e
theorem Good.rename (h : Good T) {s t : ByteArray} {l m : List ByteArray} (_ : IsPath s l) (hm : IsPath t m) : Good (renameV T l m).1 := by
  unfold renameV
  split
  · exact h
  · rename_i hl0
    split
    · exact h
    · rename_i x hx0
      obtain ⟨hw, hx⟩ := findE_ok hx0
      split
      · exact h
      · rename_i hu
        split
        · exact h
        · rename_i p r hpl
          split
          · exact h
          · rename_i hdp
            obtain ⟨el, hpw, y, hy, hd, hn, hl⟩ := placeE_ok hpl
            obtain ⟨a8, hr⟩ := hm.snoc_lt el
            obtain ⟨e1, e2, e3⟩ := up_ok hl0 hw
            refine h.moved e2 e3 hpw hy hd hn hl hr ?_ ?_
            · rw [← e1]
              intro c
              refine hu ⟨?_, ?_⟩
              · rw [el]; exact prefix_snoc c
              · rintro rfl
                have h1 := c.length_le
                have h2 := congrArg List.length e1
                rw [List.length_append, List.length_singleton] at h2
                omega
            · intro n j hj
              have h1 := deep_ge (h.fits8 hw) hj
              have h2 := congrArg List.length el
              rw [List.length_append, List.length_singleton] at h2
              omega
theorem Good.remove (h : Good T) (l : List ByteArray) : Good (removeV T l).1 := by
  unfold removeV
  split
  · exact h
  · rename_i hl0
    split
    · exact h
    · rename_i x hx0
      split
      · exact h
      · rename_i hn
        obtain ⟨hw, hx⟩ := findE_ok hx0
        obtain ⟨e1, e2, e3⟩ := up_ok hl0 hw
        exact h.less e2 e3 hx (by simpa using hn)
theorem wrote_size {d s : ByteArray} {a : Nat} (ha : a ≤ d.size) : (wrote d a s).size = max d.size (a + s.size) := by
  have e1 : d.data.toList.length = d.size := Array.length_toList (xs := d.data)
  have e2 : s.data.toList.length = s.size := Array.length_toList (xs := s.data)
  unfold wrote
  rw [bs_size]
  simp only [List.length_append, List.length_take, List.length_drop, e1, e2]
  omega
theorem firsts_size (d : ByteArray) (a : Nat) : (firsts d a).size = min a d.size := by
  have e1 : d.data.toList.length = d.size := Array.length_toList (xs := d.data)
  unfold firsts
  rw [bs_size, List.length_take, e1]
theorem Good.write (h : Good T) (l : List ByteArray) {a : Int} (ha : 0 ≤ a) (s : ByteArray) : Good (writeV T l a s).1 := by
  unfold writeV
  split
  · exact h
  · rename_i x hx0
    obtain ⟨hx1, xf⟩ := fileE_ok hx0
    obtain ⟨_, hx⟩ := findE_ok hx1
    split
    · exact h
    · rename_i hc
      refine h.data hx xf ?_
      have := ((h.formed.nodeOk hx).2.1 xf).2
      rw [wrote_size (by omega)]
      omega
theorem Good.cut (h : Good T) (l : List ByteArray) (a : Int) : Good (cutV T l a).1 := by
  unfold cutV
  split
  · exact h
  · rename_i x hx0
    obtain ⟨hx1, xf⟩ := fileE_ok hx0
    obtain ⟨_, hx⟩ := findE_ok hx1
    split
    · exact h
    · refine h.data hx xf ?_
      have := ((h.formed.nodeOk hx).2.1 xf).2
      rw [firsts_size]
      omega
theorem mayC_kind {c : Cmd} (h : MayC c) {k : Nat} (hk : c.kind = k) : k < 9 ∧ MayK c k := by
  obtain ⟨j, h1, h2, h3⟩ := h
  have : j = k := by omega
  subst this
  exact ⟨h1, h3⟩
theorem mayK_path {c : Cmd} {k : Nat} (hk : k < 7) (h : MayK c k) : PathOk c.path := by
  have : k = 0 ∨ k = 1 ∨ k = 2 ∨ k = 3 ∨ k = 4 ∨ k = 5 ∨ k = 6 := by omega
  rcases this with rfl | rfl | rfl | rfl | rfl | rfl | rfl <;> exact h.1
theorem namesOf_path {s : ByteArray} (h : PathOk s) : IsPath s (namesOf s) := by
  obtain ⟨l, hl⟩ := h
  rw [namesOf_is hl]; exact hl
theorem Good.does (h : Good T) (c : Cmd) : Good (doV T c).1 := by
  unfold doV
  split
  · exact h
  rename_i hm
  have hm : MayC c := Classical.byContradiction hm
  split
  · rename_i hk
    exact h.make (namesOf_path (mayK_path (k := 0) (by omega) (mayC_kind hm hk).2)) _
  split
  · rename_i hk
    exact h.make (namesOf_path (mayK_path (k := 1) (by omega) (mayC_kind hm hk).2)) _
  split
  · rename_i hk
    have : MayK c 2 := (mayC_kind hm hk).2
    exact h.write _ this.2.2.1.1 _
  split
  · exact h.cut _ _
  split
  · rename_i hk
    have : MayK c 4 := (mayC_kind hm hk).2
    exact h.link (namesOf_path this.2.1)
  split
  · rename_i hk
    have : MayK c 5 := (mayC_kind hm hk).2
    exact h.rename (namesOf_path this.1) (namesOf_path this.2.1)
  split
  · exact h.remove _
  · exact h

/-! ### What is refused -/
theorem step_err {k : Int} {s : ByteArray} {e : Int} (h : stepE T k s = .error e) : e = 141 ∨ e = 143 := by
  unfold stepE at h
  split at h
  · cases h; exact .inl rfl
  · split at h
    · split at h
      · cases h; exact .inl rfl
      · cases h
    · cases h; exact .inr rfl
theorem walk_err : ∀ {l : List ByteArray} {k e : Int}, walkE T k l = .error e → e = 141 ∨ e = 143
  | [], _, _, h => by cases h
  | s :: l, k, e, h => by
    rw [walkE] at h
    cases hs : stepE T k s with
    | error i => rw [hs] at h; cases h; exact step_err hs
    | ok j => rw [hs] at h; exact walk_err h
theorem find_err {l : List ByteArray} {e : Int} (h : findE T l = .error e) : e = 141 ∨ e = 143 := by
  unfold findE at h
  split at h
  · rename_i hw; cases h; exact walk_err hw
  · split at h
    · cases h; exact .inl rfl
    · cases h
theorem file_err {l : List ByteArray} {e : Int} (h : fileE T l = .error e) : e = 141 ∨ e = 143 := by
  unfold fileE at h
  split at h
  · rename_i hw; cases h; exact find_err hw
  · split at h
    · cases h; exact .inr rfl
    · cases h
theorem place_err {l : List ByteArray} {e : Int} (h : placeE T l = .error e) : 141 ≤ e ∧ e ≤ 145 := by
  unfold placeE at h
  split at h
  · cases h; omega
  · split at h
    · rename_i hw; cases h; have := walk_err hw; omega
    · split at h
      · cases h; omega
      · split at h
        · cases h; omega
        · split at h
          · cases h; omega
          · split at h
            · cases h; omega
            · cases h
theorem make_refused {l : List ByteArray} {d : Bool} (h : (makeV T l d).2 ≠ 0) : (makeV T l d).1 = T := by
  revert h; unfold makeV
  split
  · exact fun _ => rfl
  · split
    · exact fun _ => rfl
    · exact fun h => absurd rfl h
theorem write_refused {l : List ByteArray} {a : Int} {s : ByteArray} (h : (writeV T l a s).2 ≠ 0) : (writeV T l a s).1 = T := by
  revert h; unfold writeV
  split
  · exact fun _ => rfl
  · split
    · exact fun _ => rfl
    · exact fun h => absurd rfl h
theorem cut_refused {l : List ByteArray} {a : Int} (h : (cutV T l a).2 ≠ 0) : (cutV T l a).1 = T := by
  revert h; unfold cutV
  split
  · exact fun _ => rfl
  · split
    · exact fun _ => rfl
    · exact fun h => absurd rfl h
theorem link_refused {l m : List ByteArray} (h : (linkV T l m).2 ≠ 0) : (linkV T l m).1 = T := by
  revert h; unfold linkV
  split
  · exact fun _ => rfl
  · split
    · exact fun _ => rfl
    · exact fun h => absurd rfl h
theorem rename_refused {l m : List ByteArray} (h : (renameV T l m).2 ≠ 0) : (renameV T l m).1 = T := by
  revert h; unfold renameV
  split
  · exact fun _ => rfl
  · split
    · exact fun _ => rfl
    · split
      · exact fun _ => rfl
      · split
        · exact fun _ => rfl
        · split
          · exact fun _ => rfl
          · exact fun h => absurd rfl h
theorem remove_refused {l : List ByteArray} (h : (removeV T l).2 ≠ 0) : (removeV T l).1 = T := by
  revert h; unfold removeV
  split
  · exact fun _ => rfl
  · split
    · exact fun _ => rfl
    · split
      · exact fun _ => rfl
      · exact fun h => absurd rfl h
/-- what is refused changes nothing -/
theorem do_refused {c : Cmd} (h : (doV T c).2 ≠ 0) : (doV T c).1 = T := by
  revert h; unfold doV
  split
  · exact fun _ => rfl
  split
  · exact make_refused
  split
  · exact make_refused
  split
  · exact write_refused
  split
  · exact cut_refused
  split
  · exact link_refused
  split
  · exact rename_refused
  split
  · exact remove_refused
  · exact fun _ => rfl
end
end Go.Proofs.YtfncoojpommfcaaGreatDoor

namespace Go.Proofs.YtfncoojpommfcaaGreatDoor
open Go.RowKit Go

/-! ### Nodes as others see them -/
structure Nde where
  num : Int
  dir : Bool
  links : Int
  data : ByteArray
def toldB (x : Nod) : ByteArray := if x.dir = true then bs (laidL kE x.names) else x.data
def told (x : Nod) : Nde := ⟨x.num, x.dir, x.links, toldB x⟩
def tolds (T : List Nod) : List Nde := T.map told
theorem may_of_rise {l : List Ent} (h : RiseE l) (hl : l.length ≤ 4096) (ho : ∀ e ∈ l, EntOk e) : May kE l := by
  refine ⟨hl, fun i hi _ => ⟨ho _ (List.getElem_mem _), fun h0 => ?_⟩⟩
  exact (List.pairwise_iff_getElem.1 h) (i - 1) i (by omega) hi (by omega)
theorem rise_of_may {l : List Ent} (h : May kE l) : RiseE l := by
  have : ∀ (n i j : Nat) (hi : i < l.length) (hj : j < l.length), j = i + n + 1 → ltB l[i].name l[j].name = true := by
    intro n
    induction n with
    | zero =>
      intro i j hi hj e
      subst e
      exact (h.2 (i + 1) hj hj).2 (by omega)
    | succ n ih =>
      intro i j hi hj e
      have h1 := ih i (j - 1) hi (by omega) (by omega)
      have h2 : ltB (l[j - 1]'(by omega)).name l[j].name = true := (h.2 j hj hj).2 (by omega)
      exact ordB.trans _ _ _ h1 h2
  exact List.pairwise_iff_getElem.2 fun i j hi hj hij => this (j - i - 1) i j hi hj (by omega)
theorem Formed.entOk {T : List Nod} (h : Formed T) {x : Nod} (hx : x ∈ T) {e : Ent} (he : e ∈ x.names) : EntOk e := by
  obtain ⟨y, hy⟩ := (h.kids x hx e he).2
  have := h.num y (at_mem hy).1
  rw [(at_mem hy).2] at this
  exact ⟨(h.dir x hx (h.dirOf hx he)).2.2.2 e he, this⟩
theorem Formed.may {T : List Nod} (h : Formed T) {x : Nod} (hx : x ∈ T) (hd : x.dir = true) : May kE x.names := by
  obtain ⟨_, h2, h3, _⟩ := h.dir x hx hd
  exact may_of_rise h2 (by omega) fun e he => h.entOk hx he
theorem Formed.isL {T : List Nod} (h : Formed T) {x : Nod} (hx : x ∈ T) (hd : x.dir = true) : IsL kE (toldB x).data.toList x.names := by
  unfold toldB
  rw [if_pos hd, bs_list]
  exact ⟨h.may hx hd, rfl⟩
theorem told_inj {T U : List Nod} (h : Formed T) (k : Formed U) {x y : Nod} (hx : x ∈ T) (hy : y ∈ U) (e : told x = told y) : x = y := by
  obtain ⟨n, d, l, b, ns⟩ := x
  obtain ⟨n', d', l', b', ns'⟩ := y
  unfold told at e
  simp only [Nde.mk.injEq] at e
  obtain ⟨rfl, rfl, rfl, e4⟩ := e
  cases d with
  | true =>
    have h1 := h.isL hx rfl
    have h2 := k.isL hy rfl
    rw [e4] at h1
    have e5 := h1.uniq (readsE (a := 65535) (by omega)) h2
    have e6 := (h.dir _ hx rfl).1
    have e7 := (k.dir _ hy rfl).1
    simp only at e5 e6 e7
    rw [e5, e6, e7]
  | false =>
    have e6 := (h.file _ hx rfl).1
    have e7 := (k.file _ hy rfl).1
    simp only at e6 e7
    unfold toldB at e4
    simp at e4
    rw [e4, e6, e7]
theorem map_inj {α β : Type} {f : α → β} : ∀ {T U : List α}, (∀ x ∈ T, ∀ y ∈ U, f x = f y → x = y) → T.map f = U.map f → T = U
  | [], [], _, _ => rfl
  | [], _ :: _, _, e => by cases e
  | _ :: _, [], _, e => by cases e
  | x :: T, y :: U, h, e => by
    simp only [List.map_cons, List.cons.injEq] at e
    rw [h x (by simp) y (by simp) e.1, map_inj (fun a ha b hb => h a (List.mem_cons_of_mem _ ha) b (List.mem_cons_of_mem _ hb)) e.2]
theorem tolds_inj {T U : List Nod} (h : Formed T) (k : Formed U) (e : tolds T = tolds U) : T = U :=
  map_inj (fun _ hx _ hy e => told_inj h k hx hy e) e

/-! ### Directories below one -/
def isDir (T : List Nod) (k : Int) : Bool := match nodeAt T k with
  | some x => x.dir
  | none => false
def namesAt (T : List Nod) (k : Int) : List Ent := match nodeAt T k with
  | some x => x.names
  | none => []
theorem isDir_iff {T : List Nod} {k : Int} : isDir T k = true ↔ ∃ x, nodeAt T k = some x ∧ x.dir = true := by
  unfold isDir
  cases nodeAt T k with
  | none => simp
  | some x => simp
theorem isDir_at {T : List Nod} {k : Int} {x : Nod} (h : nodeAt T k = some x) : isDir T k = x.dir ∧ namesAt T k = x.names := by
  unfold isDir namesAt; rw [h]; exact ⟨rfl, rfl⟩
theorem step_iff {T : List Nod} {k j : Int} {s : ByteArray} : stepE T k s = .ok j ↔ isDir T k = true ∧ lookE (namesAt T k) s = some j := by
  rw [step_ok]
  unfold isDir namesAt
  cases nodeAt T k with
  | none => simp
  | some x => simp
def RiseAll (T : List Nod) : Prop := ∀ x ∈ T, RiseE x.names
theorem RiseAll.at {T : List Nod} (h : RiseAll T) (k : Int) : RiseE (namesAt T k) := by
  unfold namesAt
  split
  · rename_i x hx; exact h x (at_mem hx).1
  · exact List.Pairwise.nil
def dirsP (T : List Nod) : Nat → Int → List (List ByteArray)
  | 0, k => if isDir T k = true then [[]] else []
  | f + 1, k => if isDir T k = true then [] :: (namesAt T k).flatMap (fun e => (dirsP T f e.num).map (e.name :: ·)) else []
def dirsN (T : List Nod) : Nat → Int → List Int
  | 0, k => if isDir T k = true then [k] else []
  | f + 1, k => if isDir T k = true then k :: (namesAt T k).flatMap (fun e => dirsN T f e.num) else []
def endOf (T : List Nod) (k : Int) (p : List ByteArray) : Int := match walkE T k p with
  | .ok j => j
  | .error _ => 0
section
variable {T : List Nod}
theorem dirsP_mem (hr : RiseAll T) : ∀ {f : Nat} {k : Int} {p : List ByteArray}, p ∈ dirsP T f k → ∃ j, walkE T k p = .ok j ∧ isDir T j = true
  | 0, k, p, h => by
    rw [dirsP] at h
    split at h
    · rename_i hd
      rw [List.mem_singleton.1 h]; exact ⟨k, rfl, hd⟩
    · cases h
  | f + 1, k, p, h => by
    rw [dirsP] at h
    split at h
    · rename_i hd
      rcases List.mem_cons.1 h with rfl | h
      · exact ⟨k, rfl, hd⟩
      · obtain ⟨e, he, h1⟩ := List.mem_flatMap.1 h
        obtain ⟨q, hq, rfl⟩ := List.mem_map.1 h1
        obtain ⟨j, h2, h3⟩ := dirsP_mem hr hq
        have hs : stepE T k e.name = .ok e.num := step_iff.2 ⟨hd, (hr.at k).look he⟩
        exact ⟨j, by rw [walkE, hs]; exact h2, h3⟩
    · cases h
theorem dirsP_of : ∀ {f : Nat} {k : Int} {p : List ByteArray} {j : Int}, Fits T f k → walkE T k p = .ok j → isDir T j = true → p ∈ dirsP T f k
  | 0, k, p, j, hf, hw, hd => by
    obtain rfl := List.eq_nil_of_length_eq_zero (Nat.le_zero.1 (hf p j hw))
    cases hw
    rw [dirsP, if_pos hd]; simp
  | f + 1, k, [], j, _, hw, hd => by
    cases hw
    rw [dirsP, if_pos hd]; simp
  | f + 1, k, s :: p, j, hf, hw, hd => by
    rw [walkE] at hw
    cases hs : stepE T k s with
    | error e => rw [hs] at hw; cases hw
    | ok i =>
      rw [hs] at hw
      have ih := dirsP_of (hf.step hs) hw hd
      obtain ⟨h1, h2⟩ := step_iff.1 hs
      rw [dirsP, if_pos h1]
      exact List.mem_cons_of_mem _ (List.mem_flatMap.2 ⟨⟨s, i⟩, look_mem h2, List.mem_map.2 ⟨p, ih, rfl⟩⟩)
theorem dirsP_nodup (hr : RiseAll T) : ∀ (f : Nat) (k : Int), (dirsP T f k).Nodup
  | 0, k => by
    rw [dirsP]
    split
    · exact List.pairwise_singleton _ _
    · exact List.Pairwise.nil
  | f + 1, k => by
    rw [dirsP]
    split
    · refine List.nodup_cons.2 ⟨fun h => ?_, ?_⟩
      · obtain ⟨e, _, h1⟩ := List.mem_flatMap.1 h
        obtain ⟨q, _, h2⟩ := List.mem_map.1 h1
        cases h2
      · refine List.pairwise_flatMap.2 ⟨fun e _ => List.pairwise_map.2 ((dirsP_nodup hr f e.num).imp fun hne he => hne (List.cons.inj he).2), ?_⟩
        refine (hr.at k).imp fun {a b} hab x hx y hy e => ?_
        obtain ⟨q, _, rfl⟩ := List.mem_map.1 hx
        obtain ⟨r, _, rfl⟩ := List.mem_map.1 hy
        rw [(List.cons.inj e).1, ordB.irr] at hab
        cases hab
    · exact List.Pairwise.nil
theorem dirsN_is (hr : RiseAll T) : ∀ (f : Nat) (k : Int), dirsN T f k = (dirsP T f k).map (endOf T k)
  | 0, k => by
    rw [dirsN, dirsP]
    split
    · rfl
    · rfl
  | f + 1, k => by
    rw [dirsN, dirsP]
    split
    · rename_i hd
      rw [List.map_cons]
      congr 1
      rw [List.map_flatMap]
      have : ∀ (l : List Ent), (∀ e ∈ l, e ∈ namesAt T k) → l.flatMap (fun e => dirsN T f e.num) = l.flatMap (fun e => ((dirsP T f e.num).map (e.name :: ·)).map (endOf T k)) := by
        intro l
        induction l with
        | nil => intro _; rfl
        | cons e l ih =>
          intro hl
          rw [List.flatMap_cons, List.flatMap_cons, ih fun x hx => hl x (List.mem_cons_of_mem _ hx), dirsN_is hr f e.num, List.map_map]
          congr 1
          refine List.map_congr_left fun p _ => ?_
          have hs : stepE T k e.name = .ok e.num := step_iff.2 ⟨hd, (hr.at k).look (hl e (by simp))⟩
          simp only [endOf, Function.comp, walkE, hs]
      exact this _ fun e he => he
    · rfl
theorem dirsN_mem (hr : RiseAll T) {f : Nat} {k j : Int} (h : j ∈ dirsN T f k) : ∃ p, walkE T k p = .ok j ∧ isDir T j = true := by
  rw [dirsN_is hr] at h
  obtain ⟨p, hp, rfl⟩ := List.mem_map.1 h
  obtain ⟨i, h1, h2⟩ := dirsP_mem hr hp
  have : endOf T k p = i := by unfold endOf; rw [h1]
  rw [this]
  exact ⟨p, h1, h2⟩
theorem dirsN_of (hr : RiseAll T) {f : Nat} {k j : Int} {p : List ByteArray} (hf : Fits T f k) (hw : walkE T k p = .ok j) (hd : isDir T j = true) : j ∈ dirsN T f k := by
  rw [dirsN_is hr]
  exact List.mem_map.2 ⟨p, dirsP_of hf hw hd, by unfold endOf; rw [hw]⟩
theorem dirsN_more : ∀ {f : Nat} {k : Int}, RiseAll T → Fits T f k → dirsN T (f + 1) k = dirsN T f k
  | 0, k, hr, hf => by
    rw [dirsN, dirsN]
    split
    · rename_i hd
      cases hn : namesAt T k with
      | nil => rfl
      | cons e l =>
        have hs : stepE T k e.name = .ok e.num := step_iff.2 ⟨hd, (hr.at k).look (by rw [hn]; simp)⟩
        have := hf [e.name] e.num (by rw [walk_one]; exact hs)
        simp at this
    · rfl
  | f + 1, k, hr, hf => by
    rw [dirsN, dirsN]
    split
    · rename_i hd
      congr 1
      have : ∀ (l : List Ent), (∀ e ∈ l, e ∈ namesAt T k) → l.flatMap (fun e => dirsN T (f + 1) e.num) = l.flatMap (fun e => dirsN T f e.num) := by
        intro l
        induction l with
        | nil => intro _; rfl
        | cons e l ih =>
          intro hl
          have hs : stepE T k e.name = .ok e.num := step_iff.2 ⟨hd, (hr.at k).look (hl e (by simp))⟩
          rw [List.flatMap_cons, List.flatMap_cons, ih fun x hx => hl x (List.mem_cons_of_mem _ hx), dirsN_more hr (hf.step hs)]
      exact this _ fun e he => he
    · rfl
def allDirs (T : List Nod) : List Int := (T.filter (·.dir)).map (·.num)
theorem allDirs_mem (hr : RiseN T) {j : Int} : j ∈ allDirs T ↔ isDir T j = true := by
  rw [isDir_iff]
  unfold allDirs
  constructor
  · intro h
    obtain ⟨x, hx, rfl⟩ := List.mem_map.1 h
    obtain ⟨h1, h2⟩ := List.mem_filter.1 hx
    exact ⟨x, hr.at h1, h2⟩
  · rintro ⟨x, hx, hd⟩
    exact List.mem_map.2 ⟨x, List.mem_filter.2 ⟨(at_mem hx).1, hd⟩, (at_mem hx).2⟩
theorem allDirs_nodup (hr : RiseN T) : (allDirs T).Nodup := by
  unfold allDirs
  refine List.pairwise_map.2 ((List.Pairwise.filter _ hr).imp fun {a b} h e => ?_)
  rw [e, ordI.irr] at h; cases h
theorem allDirs_len (T : List Nod) : (allDirs T).length ≤ T.length := by
  unfold allDirs
  rw [List.length_map]
  exact List.length_filter_le _ _
theorem sub_len : ∀ {l m : List Int}, l.Nodup → (∀ x ∈ l, x ∈ m) → l.length ≤ m.length
  | [], _, _, _ => Nat.zero_le _
  | x :: l, m, hn, hs => by
    obtain ⟨h1, h2⟩ := List.nodup_cons.1 hn
    have hx := hs x (by simp)
    have := sub_len (l := l) (m := m.erase x) h2 fun y hy => (List.mem_erase_of_ne (fun e => by subst e; exact h1 hy)).2 (hs y (List.mem_cons_of_mem _ hy))
    rw [List.length_erase_of_mem hx] at this
    have := List.length_pos_of_mem hx
    simp only [List.length_cons]
    omega
theorem sub_eq {l m : List Int} (hl : l.Nodup) (hs : ∀ x ∈ l, x ∈ m) (he : m.length ≤ l.length) : ∀ x ∈ m, x ∈ l := by
  intro x hx
  refine Classical.byContradiction fun hn => ?_
  have := sub_len (l := x :: l) (m := m) (List.nodup_cons.2 ⟨hn, hl⟩) fun y hy => by
    rcases List.mem_cons.1 hy with rfl | hy
    · exact hx
    · exact hs y hy
  simp only [List.length_cons] at this
  omega
theorem Formed.dirs_nodup (h : Formed T) (f : Nat) : (dirsN T f 1).Nodup := by
  rw [dirsN_is h.riseAll]
  refine List.pairwise_map.2 (List.Pairwise.imp_of_mem (fun {a b} ha hb hne e => ?_) (dirsP_nodup h.riseAll f 1))
  obtain ⟨i, h1, h2⟩ := dirsP_mem h.riseAll ha
  obtain ⟨j, h3, _⟩ := dirsP_mem h.riseAll hb
  unfold endOf at e
  rw [h1, h3] at e
  simp only at e
  subst e
  obtain ⟨z, hz, hd⟩ := isDir_iff.1 h2
  exact hne (h.path_uniq h1 h3 hz hd)
/-- a path has no more names than there are directories -/
theorem Formed.chain (h : Formed T) : ∀ (n : Nat) {p : List ByteArray} {j : Int}, p.length = n → walkE T 1 p = .ok j → ∃ L : List Int, L.length = n ∧ L.Nodup ∧ ∀ k ∈ L, isDir T k = true ∧ ∃ q, q.length < n ∧ walkE T 1 q = .ok k := by
  intro n
  induction n with
  | zero => intro p j _ _; exact ⟨[], rfl, List.Pairwise.nil, fun k hk => by cases hk⟩
  | succ n ih =>
    intro p j hp hw
    rcases snoc_cases p with rfl | ⟨a, s, rfl⟩
    · simp at hp
    · obtain ⟨i, w1, s1⟩ := walk_snoc.1 hw
      have ha : a.length = n := by simpa using hp
      obtain ⟨L, e1, e2, e3⟩ := ih ha w1
      refine ⟨i :: L, by simp [e1], List.nodup_cons.2 ⟨fun hi => ?_, e2⟩, fun k hk => ?_⟩
      · obtain ⟨hd, q, hq, w2⟩ := e3 i hi
        obtain ⟨z, hz, hzd⟩ := isDir_iff.1 hd
        have := h.path_uniq w1 w2 hz hzd
        rw [this] at ha; omega
      · rcases List.mem_cons.1 hk with rfl | hk
        · exact ⟨(step_iff.1 s1).1, a, by omega, w1⟩
        · obtain ⟨hd, q, hq, w2⟩ := e3 k hk
          exact ⟨hd, q, by omega, w2⟩
theorem Formed.fits60 (h : Formed T) : Fits T 60 1 := fun p j hw => by
  obtain ⟨L, e1, e2, e3⟩ := h.chain _ rfl hw
  have := sub_len e2 fun k hk => (allDirs_mem h.rise).2 (e3 k hk).1
  have := allDirs_len T
  have := h.len
  omega
/-- what the program asks of a tree's directories -/
theorem good_iff (h : Formed T) : Good T ↔ (dirsN T 60 1).length = (allDirs T).length ∧ deepF T 60 1 ≤ 8 := by
  have hsub : ∀ j ∈ dirsN T 60 1, j ∈ allDirs T := fun j hj => (allDirs_mem h.rise).2 (dirsN_mem h.riseAll hj).choose_spec.2
  constructor
  · intro g
    refine ⟨Nat.le_antisymm (sub_len (h.dirs_nodup 60) hsub) (sub_len (allDirs_nodup h.rise) fun j hj => ?_), ?_⟩
    · have hd := (allDirs_mem h.rise).1 hj
      obtain ⟨x, hx, hxd⟩ := isDir_iff.1 hd
      obtain ⟨p, hp⟩ := g.reach x (at_mem hx).1 hxd
      rw [(at_mem hx).2] at hp
      exact dirsN_of h.riseAll h.fits60 hp hd
    · obtain ⟨l, j, h1, h2⟩ := deep_wit h.riseAll 60 1
      have := g.short l j h1
      omega
  · rintro ⟨h1, h2⟩
    refine ⟨h, fun x hx hd => ?_, fun l k hw => Nat.le_trans (deep_ge h.fits60 hw) h2⟩
    have := sub_eq (h.dirs_nodup 60) hsub (by omega) x.num ((allDirs_mem h.rise).2 (by rw [(isDir_at (h.rise.at hx)).1]; exact hd))
    obtain ⟨p, hp, _⟩ := dirsN_mem h.riseAll this
    exact ⟨p, hp⟩
end
end Go.Proofs.YtfncoojpommfcaaGreatDoor

namespace Go.Proofs.YtfncoojpommfcaaGreatDoor
open Go.RowKit Go

def totE (T : List Nod) : Nat → List Ent → Int → Nat
  | 0, l, k => cE l k
  | f + 1, l, k => cE l k + sumK (fun e => if isDir T e.num = true then totE T f (namesAt T e.num) k else 0) l
def okE (T : List Nod) : Nat → List Ent → Prop
  | 0, l => l = []
  | f + 1, l => ∀ e ∈ l, e.num ≠ 1 ∧ nodeAt T e.num ≠ none ∧ (isDir T e.num = true → okE T f (namesAt T e.num))
def upc (c : Int → Nat) (k : Int) : Int → Nat := fun j => if j = k then c j + 1 else c j
def meetL (T : List Nod) : Nat → List Ent → (Int → Nat) → (Int → Nat) × Bool
  | _, [], c => (c, true)
  | 0, _ :: _, c => (c, false)
  | f + 1, e :: l, c =>
    if nodeAt T e.num = none ∨ e.num = 1 then (c, false)
    else if isDir T e.num = true then
      (if upc c e.num e.num = 1 then
        match meetL T f (namesAt T e.num) (upc c e.num) with
        | (c2, false) => (c2, false)
        | (c2, true) => meetL T (f + 1) l c2
      else (upc c e.num, false))
    else meetL T (f + 1) l (upc c e.num)
termination_by f l => (f, l.length)
section
variable {T : List Nod}
theorem sum_append {α : Type} (f : α → Nat) (l m : List α) : sumK f (l ++ m) = sumK f l + sumK f m := by simp [sumK]
theorem sum_flat {α β : Type} (g : β → Nat) (h : α → List β) (l : List α) : sumK g (l.flatMap h) = sumK (fun e => sumK g (h e)) l := by
  induction l with
  | nil => rfl
  | cons x l ih => rw [List.flatMap_cons, sum_append, sum_cons, ih]
theorem sum_add {α : Type} (f g : α → Nat) (l : List α) : sumK (fun x => f x + g x) l = sumK f l + sumK g l := by
  induction l with
  | nil => rfl
  | cons x l ih => rw [sum_cons, sum_cons, sum_cons, ih]; omega
theorem sum_perm {α : Type} {f : α → Nat} {l m : List α} (h : l.Perm m) : sumK f l = sumK f m := by
  induction h with
  | nil => rfl
  | cons x _ ih => rw [sum_cons, sum_cons, ih]
  | swap x y l => rw [sum_cons, sum_cons, sum_cons, sum_cons]; omega
  | trans _ _ i1 i2 => exact i1.trans i2
theorem c_cons (e : Ent) (l : List Ent) (k : Int) : cE (e :: l) k = oneIf e k + cE l k := sum_cons _ _ _
theorem tot_cons (f : Nat) (e : Ent) (l : List Ent) (k : Int) : totE T (f + 1) (e :: l) k = oneIf e k + (if isDir T e.num = true then totE T f (namesAt T e.num) k else 0) + totE T (f + 1) l k := by
  rw [totE, totE, c_cons, sum_cons]; omega
theorem tot_nil (f : Nat) (k : Int) : totE T f [] k = 0 := by cases f <;> rfl
/-- what is counted below a directory: the names in all directories below it -/
theorem tot_dirs : ∀ (f : Nat) (j k : Int), isDir T j = true → sumK (fun i => cE (namesAt T i) k) (dirsN T f j) = totE T f (namesAt T j) k
  | 0, j, k, hd => by
    rw [dirsN, if_pos hd, sum_cons, totE]; rfl
  | f + 1, j, k, hd => by
    rw [dirsN, if_pos hd, sum_cons, sum_flat, totE]
    congr 1
    refine sum_congr fun e _ => ?_
    by_cases h : isDir T e.num = true
    · rw [if_pos h, tot_dirs f _ _ h]
    · rw [if_neg h]
      cases f <;> simp [dirsN, h, sumK]
theorem sum_count (l : List Int) (k : Int) : l.count k = sumK (fun j => if j = k then 1 else 0) l := by
  induction l with
  | nil => rfl
  | cons x l ih =>
    rw [sum_cons, List.count_cons, ih]
    by_cases h : x = k
    · simp [h]; omega
    · simp [h]
/-- how often a directory is met is how often it is named there -/
theorem count_dirs : ∀ (f : Nat) (l : List Ent) (k : Int), isDir T k = true → sumK (fun e : Ent => (dirsN T f e.num).count k) l = totE T f l k
  | 0, l, k, hd => by
    rw [totE]
    refine sum_congr fun e _ => ?_
    rw [dirsN]
    unfold oneIf
    by_cases h : e.num = k
    · rw [h, if_pos hd, if_pos rfl]; simp
    · rw [if_neg h]
      split
      · rw [List.count_cons, List.count_nil]; simp [h]
      · rfl
  | f + 1, l, k, hd => by
    rw [totE]
    show _ = sumK _ _ + _
    rw [← sum_add]
    refine sum_congr fun e _ => ?_
    rw [dirsN]
    unfold oneIf
    by_cases h2 : isDir T e.num = true
    · rw [if_pos h2, if_pos h2, List.count_cons, sum_count, sum_flat]
      have ih := count_dirs f (namesAt T e.num) k hd
      have e2 : sumK (fun e' : Ent => sumK (fun j => if j = k then 1 else 0) (dirsN T f e'.num)) (namesAt T e.num) = totE T f (namesAt T e.num) k := by
        rw [← ih]
        exact sum_congr fun x _ => (sum_count _ _).symm
      rw [e2]
      by_cases h : e.num = k
      · simp [h]; omega
      · simp [h]
    · have h : e.num ≠ k := fun h => h2 (by rw [h]; exact hd)
      rw [if_neg h2, if_neg h2, if_neg h]; rfl
theorem okE_tot1 : ∀ {f : Nat} {l : List Ent}, okE T f l → totE T f l 1 = 0
  | 0, l, h => by
    have h : l = [] := h
    rw [h]; rfl
  | f + 1, [], _ => tot_nil _ _
  | f + 1, e :: l, h => by
    have h : ∀ e' ∈ e :: l, e'.num ≠ 1 ∧ nodeAt T e'.num ≠ none ∧ (isDir T e'.num = true → okE T f (namesAt T e'.num)) := h
    rw [tot_cons]
    have h1 := h e (by simp)
    have h2 : totE T (f + 1) l 1 = 0 := okE_tot1 (f := f + 1) (l := l) (fun x hx => h x (List.mem_cons_of_mem _ hx))
    rw [h2, oneIf, if_neg h1.1]
    split
    · rename_i hd
      rw [okE_tot1 (h1.2.2 hd)]
    · rfl
termination_by f l => (f, l.length)
theorem tot_more : ∀ {f : Nat} {l : List Ent} (k : Int), okE T f l → totE T (f + 1) l k = totE T f l k
  | 0, l, k, h => by
    have h : l = [] := h
    rw [h]; rfl
  | f + 1, l, k, h => by
    have h : ∀ e' ∈ l, e'.num ≠ 1 ∧ nodeAt T e'.num ≠ none ∧ (isDir T e'.num = true → okE T f (namesAt T e'.num)) := h
    rw [totE]
    rw [show totE T (f + 1) l k = cE l k + sumK (fun e => if isDir T e.num = true then totE T f (namesAt T e.num) k else 0) l from rfl]
    congr 1
    refine sum_congr fun e he => ?_
    split
    · rename_i hd
      exact tot_more k ((h e he).2.2 hd)
    · rfl
theorem okE_walk : ∀ {p : List ByteArray} {f : Nat} {k j : Int}, okE T f (namesAt T k) → walkE T k p = .ok j → isDir T j = true → p.length ≤ f ∧ okE T (f - p.length) (namesAt T j)
  | [], f, k, j, h, hw, _ => by cases hw; exact ⟨Nat.zero_le _, h⟩
  | s :: p, f, k, j, h, hw, hd => by
    rw [walkE] at hw
    cases hs : stepE T k s with
    | error e => rw [hs] at hw; cases hw
    | ok i =>
      rw [hs] at hw
      obtain ⟨h1, h2⟩ := step_iff.1 hs
      have hm := look_mem h2
      cases f with
      | zero =>
        have h : namesAt T k = [] := h
        rw [h] at hm; cases hm
      | succ f =>
        have h : ∀ e' ∈ namesAt T k, e'.num ≠ 1 ∧ nodeAt T e'.num ≠ none ∧ (isDir T e'.num = true → okE T f (namesAt T e'.num)) := h
        have hi : isDir T i = true := by
          cases p with
          | nil => cases hw; exact hd
          | cons t p =>
            obtain ⟨q, w1, _⟩ := walk_parts (a := [t]) (b := p) hw
            rw [walk_one] at w1
            exact (step_iff.1 w1).1
        obtain ⟨g1, g2⟩ := okE_walk ((h _ hm).2.2 hi) hw hd
        refine ⟨by simp; omega, ?_⟩
        rw [show f + 1 - (s :: p).length = f - p.length by simp]
        exact g2
theorem okE_fits {f : Nat} {k : Int} (h : okE T f (namesAt T k)) : Fits T f k := by
  intro p j hw
  rcases snoc_cases p with rfl | ⟨a, s, rfl⟩
  · exact Nat.zero_le _
  · obtain ⟨i, w1, s1⟩ := walk_snoc.1 hw
    obtain ⟨h1, h2⟩ := step_iff.1 s1
    obtain ⟨g1, g2⟩ := okE_walk h w1 h1
    have hm := look_mem h2
    cases hf : f - a.length with
    | zero =>
      rw [hf] at g2
      have g2 : namesAt T i = [] := g2
      rw [g2] at hm; cases hm
    | succ n => simp; omega
theorem okE_of (hr : RiseAll T) (hk : ∀ k t j, stepE T k t = .ok j → j ≠ 1 ∧ ∃ y, nodeAt T j = some y) : ∀ {f : Nat} {k : Int}, isDir T k = true → Fits T f k → okE T f (namesAt T k)
  | 0, k, hd, hf => by
    show namesAt T k = []
    cases hn : namesAt T k with
    | nil => rfl
    | cons e l =>
      have hs : stepE T k e.name = .ok e.num := step_iff.2 ⟨hd, (hr.at k).look (by rw [hn]; simp)⟩
      have := hf [e.name] e.num (by rw [walk_one]; exact hs)
      simp at this
  | f + 1, k, hd, hf => fun e he => by
    have hs : stepE T k e.name = .ok e.num := step_iff.2 ⟨hd, (hr.at k).look he⟩
    obtain ⟨h1, y, hy⟩ := hk _ _ _ hs
    exact ⟨h1, by rw [hy]; exact Option.some_ne_none y, fun h2 => okE_of hr hk h2 (hf.step hs)⟩
theorem Good.okE (h : Good T) : okE T 8 (namesAt T 1) := by
  obtain ⟨r, hr, hd, _⟩ := h.formed.root
  exact okE_of h.formed.riseAll (fun k t j hs => h.formed.step_ne hs) (by rw [(isDir_at hr).1]; exact hd) (h.fits8 (l := []) rfl)
theorem cnt_dirs (hr : RiseN T) (hf : ∀ x ∈ T, x.dir = false → x.names = []) (k : Int) : cnt T k = sumK (fun i => cE (namesAt T i) k) (allDirs T) := by
  have : ∀ (l : List Nod), (∀ x ∈ l, x ∈ T) → sumK (fun x => cE x.names k) l = sumK (fun i => cE (namesAt T i) k) ((l.filter (·.dir)).map (·.num)) := by
    intro l
    induction l with
    | nil => intro _; rfl
    | cons x l ih =>
      intro hl
      have ih := ih fun y hy => hl y (List.mem_cons_of_mem _ hy)
      have hx := hl x (by simp)
      rw [sum_cons, ih]
      cases hd : x.dir with
      | true => rw [List.filter_cons_of_pos (by simpa using hd), List.map_cons, sum_cons, (isDir_at (hr.at hx)).2]
      | false => rw [List.filter_cons_of_neg (by simp [hd]), hf x hx hd]; simp [cE, sumK]
  exact this T fun x hx => hx
theorem perm_of {l m : List Int} (hl : l.Nodup) (hm : m.Nodup) (h : ∀ x, x ∈ l ↔ x ∈ m) : l.Perm m := (List.perm_ext_iff_of_nodup hl hm).2 h
theorem Good.dirs_perm (h : Good T) {f : Nat} (hf : 8 ≤ f) : (dirsN T f 1).Perm (allDirs T) := by
  have F := h.formed
  refine perm_of (F.dirs_nodup f) (allDirs_nodup F.rise) fun j => ⟨fun hj => (allDirs_mem F.rise).2 (dirsN_mem F.riseAll hj).choose_spec.2, fun hj => ?_⟩
  have hd := (allDirs_mem F.rise).1 hj
  obtain ⟨x, hx, hxd⟩ := isDir_iff.1 hd
  obtain ⟨p, hp⟩ := h.reach x (at_mem hx).1 hxd
  rw [(at_mem hx).2] at hp
  exact dirsN_of F.riseAll ((h.fits8 (l := []) rfl).mono hf) hp hd
theorem Formed.rootDir (h : Formed T) : isDir T 1 = true := by
  obtain ⟨r, hr, hd, _⟩ := h.root
  rw [(isDir_at hr).1]; exact hd
/-- of a tree, what is counted from the root on is all -/
theorem Good.tot (h : Good T) (k : Int) : totE T 8 (namesAt T 1) k = cnt T k := by
  rw [← tot_dirs 8 1 k h.formed.rootDir, cnt_dirs h.formed.rise (fun x hx hd => (h.formed.file x hx hd).1) k]
  exact sum_perm (h.dirs_perm (Nat.le_refl _))
theorem Good.tot_dir (h : Good T) {k : Int} (hk : isDir T k = true) : totE T 8 (namesAt T 1) k ≤ 1 := by
  rw [h.tot]
  obtain ⟨x, hx, hd⟩ := isDir_iff.1 hk
  by_cases h1 : k = 1
  · rw [h1, h.formed.cnt_root]; omega
  · have := h.formed.links x (at_mem hx).1 (by rw [(at_mem hx).2]; exact h1)
    rw [(at_mem hx).2] at this
    have := this.2.2 hd
    omega

/-! ### One that goes through nodes -/
theorem upc_self (c : Int → Nat) (k : Int) : upc c k k = c k + 1 := by simp [upc]
theorem upc_is (c : Int → Nat) (e : Ent) (k : Int) : upc c e.num k = c k + oneIf e k := by
  unfold upc oneIf
  by_cases h : k = e.num
  · simp [h]
  · rw [if_neg h, if_neg (fun x => h x.symm)]; rfl
theorem meet_ok : ∀ {f : Nat} {l : List Ent} {c c2 : Int → Nat}, meetL T f l c = (c2, true) → okE T f l ∧ (∀ k, c2 k = c k + totE T f l k) ∧ (∀ k, isDir T k = true → 0 < totE T f l k → c2 k = 1)
  | 0, [], c, c2, h => by
    rw [meetL] at h; cases h
    exact ⟨rfl, fun k => by rw [tot_nil]; rfl, fun k _ hp => by rw [tot_nil] at hp; omega⟩
  | f + 1, [], c, c2, h => by
    rw [meetL] at h; cases h
    exact ⟨(fun e he => by cases he), fun k => by rw [tot_nil]; rfl, fun k _ hp => by rw [tot_nil] at hp; omega⟩
  | 0, _ :: _, c, c2, h => by rw [meetL] at h; cases h
  | f + 1, e :: l, c, c2, h => by
    rw [meetL] at h
    split at h
    · cases h
    · rename_i h0
      have h0 : nodeAt T e.num ≠ none ∧ e.num ≠ 1 := ⟨fun x => h0 (.inl x), fun x => h0 (.inr x)⟩
      split at h
      · rename_i hd
        split at h
        · rename_i h1
          split at h
          · cases h
          · rename_i c1 hc1
            obtain ⟨a1, a2, a3⟩ := meet_ok hc1
            obtain ⟨b1, b2, b3⟩ := meet_ok h
            have b1' : ∀ e' ∈ l, e'.num ≠ 1 ∧ nodeAt T e'.num ≠ none ∧ (isDir T e'.num = true → okE T f (namesAt T e'.num)) := b1
            refine ⟨fun x hx => ?_, fun k => ?_, fun k hk hp => ?_⟩
            · rcases List.mem_cons.1 hx with rfl | hx
              · exact ⟨h0.2, h0.1, fun _ => a1⟩
              · exact b1' x hx
            · rw [b2, a2, upc_is, tot_cons, if_pos hd]; omega
            · have e1 := b2 k
              have e2 := a2 k
              rw [upc_is] at e2
              rw [tot_cons, if_pos hd] at hp
              by_cases p1 : 0 < totE T (f + 1) l k
              · exact b3 k hk p1
              · by_cases p2 : 0 < totE T f (namesAt T e.num) k
                · have := a3 k hk p2; omega
                · have p3 : oneIf e k ≠ 0 := by omega
                  have e3 : e.num = k := by
                    unfold oneIf at p3; split at p3
                    · assumption
                    · omega
                  rw [e3] at h1
                  have := upc_is c e k
                  rw [e3] at this
                  omega
        · cases h
      · rename_i hd
        obtain ⟨b1, b2, b3⟩ := meet_ok h
        have b1' : ∀ e' ∈ l, e'.num ≠ 1 ∧ nodeAt T e'.num ≠ none ∧ (isDir T e'.num = true → okE T f (namesAt T e'.num)) := b1
        refine ⟨fun x hx => ?_, fun k => ?_, fun k hk hp => ?_⟩
        · rcases List.mem_cons.1 hx with rfl | hx
          · exact ⟨h0.2, h0.1, fun h => absurd h hd⟩
          · exact b1' x hx
        · rw [b2, upc_is, tot_cons, if_neg hd]; omega
        · rw [tot_cons, if_neg hd] at hp
          have : oneIf e k = 0 := if_neg (fun x => hd (by rw [x]; exact hk))
          exact b3 k hk (by omega)
termination_by f l => (f, l.length)
theorem meet_yes : ∀ {f : Nat} {l : List Ent} {c : Int → Nat}, okE T f l → (∀ k, isDir T k = true → c k + totE T f l k ≤ 1 ∨ totE T f l k = 0) → meetL T f l c = (fun k => c k + totE T f l k, true)
  | f, [], c, _, _ => by
    rw [meetL]
    congr 1
    funext k
    rw [tot_nil]; rfl
  | 0, _ :: _, _, h, _ => by cases h
  | f + 1, e :: l, c, h, hc => by
    have h' : ∀ e' ∈ e :: l, e'.num ≠ 1 ∧ nodeAt T e'.num ≠ none ∧ (isDir T e'.num = true → okE T f (namesAt T e'.num)) := h
    obtain ⟨h1, h2, h3⟩ := h' e (by simp)
    have h4 : okE T (f + 1) l := fun x hx => h' x (List.mem_cons_of_mem _ hx)
    rw [meetL, if_neg (fun x => x.elim h2 h1)]
    by_cases hd : isDir T e.num = true
    · rw [if_pos hd]
      have e1 : upc c e.num e.num = 1 := by
        have := hc e.num hd
        rw [tot_cons, if_pos hd] at this
        have h5 : oneIf e e.num = 1 := if_pos rfl
        rw [upc_self]; omega
      rw [if_pos e1, meet_yes (h3 hd) fun k hk => by
        have := hc k hk
        rw [tot_cons, if_pos hd] at this
        rw [upc_is]; omega]
      simp only
      rw [meet_yes h4 fun k hk => by
        have := hc k hk
        rw [tot_cons, if_pos hd] at this
        rw [upc_is]; omega]
      congr 1
      funext k
      rw [tot_cons, if_pos hd, upc_is]; omega
    · rw [if_neg hd, meet_yes h4 fun k hk => by
        have := hc k hk
        rw [tot_cons, if_neg hd] at this
        rw [upc_is]; omega]
      congr 1
      funext k
      rw [tot_cons, if_neg hd, upc_is]; omega
termination_by f l => (f, l.length)
theorem Good.meet (h : Good T) : meetL T 8 (namesAt T 1) (fun _ => 0) = (fun k => cnt T k, true) := by
  rw [meet_yes h.okE fun k hk => .inl (by have := h.tot_dir hk; omega)]
  congr 1
  funext k
  rw [h.tot]; omega
/-- what the document's answer asks of nodes -/
theorem good_of_meet (hr : RiseN T) (hl : T.length ≤ 60) (hn : ∀ k x, nodeAt T k = some x → NodeOk x) (h1 : ∃ r, nodeAt T 1 = some r ∧ r.dir = true ∧ r.links = 1) {c : Int → Nat}
    (hm : meetL T 8 (namesAt T 1) (fun _ => 0) = (c, true)) (hc : ∀ k x, nodeAt T k = some x → k ≠ 1 → 1 ≤ x.links ∧ (c k : Int) = x.links) : Good T := by
  obtain ⟨m1, m2, m3⟩ := meet_ok hm
  have hra : RiseAll T := fun x hx => (hn _ x (hr.at hx)).rise
  have hd1 : isDir T 1 = true := by
    obtain ⟨r, hr, hd, _⟩ := h1
    rw [(isDir_at hr).1]; exact hd
  have hf8 : Fits T 8 1 := okE_fits m1
  have hcount : ∀ k, isDir T k = true → (dirsN T 9 1).count k = (if 1 = k then 1 else 0) + totE T 8 (namesAt T 1) k := fun k hk => by
    rw [dirsN, if_pos hd1, List.count_cons, sum_count, sum_flat, ← count_dirs 8 (namesAt T 1) k hk]
    have : sumK (fun e : Ent => sumK (fun j => if j = k then 1 else 0) (dirsN T 8 e.num)) (namesAt T 1) = sumK (fun e : Ent => (dirsN T 8 e.num).count k) (namesAt T 1) := sum_congr fun x _ => (sum_count _ _).symm
    rw [this]
    by_cases h : 1 = k <;> simp [h] <;> omega
  have hnd : (dirsN T 9 1).Nodup := List.nodup_iff_count.2 fun k => by
    by_cases hk : isDir T k = true
    · rw [hcount k hk]
      by_cases h : 1 = k
      · subst h; rw [okE_tot1 m1]; simp
      · rw [if_neg h]
        have e1 := m2 k
        have e2 := m3 k hk
        omega
    · rw [List.count_eq_zero_of_not_mem (fun hm => hk (dirsN_mem hra hm).choose_spec.2)]; omega
  have hall : ∀ j, j ∈ dirsN T 9 1 ↔ j ∈ allDirs T := fun j => ⟨fun hj => (allDirs_mem hr).2 (dirsN_mem hra hj).choose_spec.2, fun hj => by
    have hk := (allDirs_mem hr).1 hj
    refine List.count_pos_iff.1 ?_
    rw [hcount j hk]
    by_cases h : 1 = j
    · rw [if_pos h]; omega
    · obtain ⟨x, hx, _⟩ := isDir_iff.1 hk
      have := hc j x hx (fun e => h e.symm)
      have := m2 j
      omega⟩
  have hcnt : ∀ k, cnt T k = c k := fun k => by
    rw [cnt_dirs hr (fun x hx hd => ((hn _ x (hr.at hx)).2.1 hd).1) k, ← sum_perm (perm_of hnd (allDirs_nodup hr) hall), tot_dirs 9 1 k hd1, tot_more k m1, m2 k]
    omega
  have F : Formed T := by
    refine Formed.of hr hl hn h1 (fun k t j hs => ?_) (fun k x hx hk => ?_)
    · obtain ⟨g1, g2⟩ := step_iff.1 hs
      have hj := (hall k).2 ((allDirs_mem hr).2 g1)
      obtain ⟨p, hp, _⟩ := dirsN_mem hra hj
      obtain ⟨_, g4⟩ := okE_walk m1 hp g1
      have hm := look_mem g2
      cases hf : 8 - p.length with
      | zero =>
        rw [hf] at g4
        have g4 : namesAt T k = [] := g4
        rw [g4] at hm; cases hm
      | succ n =>
        rw [hf] at g4
        have g5 := g4 _ hm
        refine ⟨g5.1, ?_⟩
        cases hy : nodeAt T j with
        | none => exact absurd hy g5.2.1
        | some y => exact ⟨y, rfl⟩
    · rw [hcnt]
      obtain ⟨l1, l2⟩ := hc k x hx hk
      refine ⟨l2.symm, l1, fun hd => ?_⟩
      have hk2 : isDir T k = true := by rw [(isDir_at hx).1]; exact hd
      have e1 := m2 k
      have e2 := m3 k hk2 (by omega)
      omega
  refine ⟨F, fun x hx hd => ?_, fun l k hw => hf8 l k hw⟩
  have hj := (hall x.num).2 ((allDirs_mem hr).2 (by rw [(isDir_at (hr.at hx)).1]; exact hd))
  obtain ⟨p, hp, _⟩ := dirsN_mem hra hj
  exact ⟨p, hp⟩
/-- what the program asks of names and links -/
theorem formed_of_named (hr : RiseN T) (hl : T.length ≤ 60) (hn : ∀ k x, nodeAt T k = some x → (1 ≤ k → k ≤ 65535 → NodeOk x) ∧ 1 ≤ k ∧ RiseE x.names ∧ (∀ e ∈ x.names, EntOk e) ∧ (x.dir = false → x.names = []))
    (h1 : ∃ r, nodeAt T 1 = some r ∧ r.dir = true) (hd : ∀ k x, nodeAt T k = some x → x.dir = true → x.links = 1)
    (hc : ∀ k, (nodeAt T k).map Nod.links = if k = 1 then some (1 + (cnt T 1 : Int)) else if cnt T k = 0 then none else some (cnt T k : Int)) : Formed T := by
  obtain ⟨r, hr1, hrd⟩ := h1
  have hroot : cnt T 1 = 0 ∧ r.links = 1 := by
    have := hc 1
    rw [hr1, if_pos rfl] at this
    have e1 : r.links = 1 + (cnt T 1 : Int) := Option.some.inj this
    have e2 := hd 1 r hr1 hrd
    omega
  have hle : ∀ k x, nodeAt T k = some x → k ≤ 65535 := fun k x hx => by
    by_cases h : k = 1
    · omega
    · have := hc k
      rw [hx, if_neg h] at this
      split at this
      · cases this
      · rename_i hp
        obtain ⟨y, hy, h2⟩ := sum_pos (Nat.pos_of_ne_zero hp)
        obtain ⟨e, he, h3⟩ := c_ex h2
        have := ((hn _ y (hr.at hy)).2.2.2.1 e he).2.2
        omega
  refine Formed.of hr hl (fun k x hx => (hn k x hx).1 (hn k x hx).2.1 (hle k x hx)) ⟨r, hr1, hrd, hroot.2⟩ (fun k t j hs => ?_) (fun k x hx hk => ?_)
  · obtain ⟨x, hx, _, hl⟩ := step_ok.1 hs
    have p1 := c_pos (look_mem hl)
    have p2 : cE x.names j ≤ cnt T j := sum_mem (f := fun x => cE x.names j) (at_mem hx).1
    simp only at p1
    have hj : j ≠ 1 := fun e => by rw [e] at p2 p1; omega
    have := hc j
    rw [if_neg hj, if_neg (by omega)] at this
    obtain ⟨y, hy, _⟩ := Option.map_eq_some_iff.1 this
    exact ⟨hj, y, hy⟩
  · have := hc k
    rw [hx, if_neg hk] at this
    split at this
    · cases this
    · have e1 : x.links = (cnt T k : Int) := Option.some.inj this
      exact ⟨e1, by omega, hd k x hx⟩
theorem Formed.named (h : Formed T) (k : Int) : (nodeAt T k).map Nod.links = if k = 1 then some (1 + (cnt T 1 : Int)) else if cnt T k = 0 then none else some (cnt T k : Int) := by
  by_cases e : k = 1
  · obtain ⟨r, hr, _, h3⟩ := h.root
    rw [e, if_pos rfl, hr, h.cnt_root]
    simp [h3]
  · rw [if_neg e]
    cases hx : nodeAt T k with
    | none => rw [h.cnt_none hx]; rfl
    | some x =>
      have := h.links x (at_mem hx).1 (by rw [(at_mem hx).2]; exact e)
      rw [(at_mem hx).2] at this
      rw [if_neg (by omega)]
      simp [this.1]
end
end Go.Proofs.YtfncoojpommfcaaGreatDoor

