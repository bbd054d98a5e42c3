/-
  FilD / FilE / FilF / FilG.
-/
import Derived.Test.YtfokdmijkniomaaGreatDoorFA
namespace Go.Proofs.YtfokdmijkniomaaGreatDoor
open Go.RowKit Go

def NodeOk (x : Nod) : Prop := (1 ≤ x.num ∧ x.num ≤ 65535) ∧ (x.dir = false → x.names = [] ∧ x.data.size ≤ 16384) ∧
  (x.dir = true → x.data = ⟨#[]⟩ ∧ RiseE x.names ∧ x.names.length ≤ 60 ∧ ∀ e ∈ x.names, NameOk e.name)
section
variable {T U : List Nod}
theorem NodeOk.rise {x : Nod} (h : NodeOk x) : RiseE x.names := by
  cases hd : x.dir with
  | true => exact (h.2.2 hd).2.1
  | false => rw [(h.2.1 hd).1]; exact List.Pairwise.nil
theorem Formed.nodeOk (h : Formed T) {k : Int} {x : Nod} (hx : nodeAt T k = some x) : NodeOk x :=
  ⟨h.num x (at_mem hx).1, h.file x (at_mem hx).1, h.dir x (at_mem hx).1⟩
theorem Formed.of (hr : RiseN U) (hl : U.length ≤ 60) (hn : ∀ k x, nodeAt U k = some x → NodeOk x) (h1 : ∃ r, nodeAt U 1 = some r ∧ r.dir = true ∧ r.links = 1)
    (hk : ∀ k t j, stepE U k t = .ok j → j ≠ 1 ∧ ∃ y, nodeAt U j = some y)
    (hc : ∀ k x, nodeAt U k = some x → k ≠ 1 → x.links = cnt U k ∧ 1 ≤ x.links ∧ (x.dir = true → x.links = 1)) : Formed U :=
  ⟨hr, hl, fun x hx => (hn _ x (hr.at hx)).1, fun x hx => (hn _ x (hr.at hx)).2.1, fun x hx => (hn _ x (hr.at hx)).2.2, h1,
    fun x hx e he => by
      have ho := hn _ x (hr.at hx)
      have hd : x.dir = true := by
        cases hd : x.dir with
        | true => rfl
        | false => rw [(ho.2.1 hd).1] at he; cases he
      exact hk x.num e.name e.num (step_ok.2 ⟨x, hr.at hx, hd, ho.rise.look he⟩),
    fun x hx hne => hc _ x (hr.at hx) hne⟩
theorem nodeOk_del {x : Nod} (h : NodeOk x) (s : ByteArray) : NodeOk { x with names := delE s x.names } := by
  refine ⟨h.1, fun hd => ?_, fun hd => ?_⟩
  · have := h.2.1 hd
    exact ⟨by simp [this.1, delE, dropK], this.2⟩
  · obtain ⟨h1, h2, h3, h4⟩ := h.2.2 hd
    refine ⟨h1, h2.del s, ?_, fun e he => h4 e (mem_del.1 he).1⟩
    cases hl : lookE x.names s with
    | none =>
      have : delE s x.names = x.names := by
        refine RiseK.ext ordB (h2.del s) h2 fun j => ?_
        unfold delE
        rw [seek_drop]
        by_cases e : s = j
        · subst e; simp [look_none.1 hl]
        · simp [e]
      simpa [this] using h3
    | some k => have := del_len h2 hl; simp only; omega
theorem nodeOk_ins {x : Nod} (h : NodeOk x) (hd : x.dir = true) {s : ByteArray} (hs : NameOk s) (hn : lookE x.names s = none) (hl : x.names.length < 60) (k : Int) : NodeOk { x with names := insE s k x.names } := by
  refine ⟨h.1, fun hf => (by rw [show x.dir = false from hf] at hd; cases hd), fun _ => ?_⟩
  obtain ⟨h1, h2, h3, h4⟩ := h.2.2 hd
  refine ⟨h1, h2.ins s k, ?_, fun e he => ?_⟩
  · have := ins_len (k := k) h2 hn; simp only; omega
  · rcases mem_ins he with rfl | he
    · exact hs
    · exact h4 e he
theorem step_del {d : Int} {was : ByteArray} {x : Nod} (hx : nodeAt T d = some x) (k : Int) (t : ByteArray) (j : Int) :
    stepE (nameDel T d was) k t = .ok j ↔ stepE T k t = .ok j ∧ ¬ (k = d ∧ t = was) := by
  rw [step_ok, step_ok, at_nameDel hx]
  by_cases e : d = k
  · subst e
    rw [if_pos rfl]
    constructor
    · rintro ⟨y, hy, h1, h2⟩
      cases hy
      simp only [look_del] at h1 h2
      split at h2
      · cases h2
      · rename_i hn
        exact ⟨⟨x, hx, h1, h2⟩, fun c => hn c.2.symm⟩
    · rintro ⟨⟨y, hy, h1, h2⟩, h3⟩
      rw [hx] at hy; cases hy
      refine ⟨_, rfl, h1, ?_⟩
      simp only [look_del]
      rw [if_neg (fun c => h3 ⟨rfl, c.symm⟩)]; exact h2
  · rw [if_neg e]
    exact ⟨fun h => ⟨h, fun c => e c.1.symm⟩, fun h => h.1⟩
theorem step_put {p n : Int} {s : ByteArray} {x : Nod} (hx : nodeAt T p = some x) (hd : x.dir = true) (hn : lookE x.names s = none) (k : Int) (t : ByteArray) (j : Int) :
    stepE (namePut T p s n) k t = .ok j ↔ (k = p ∧ t = s ∧ j = n) ∨ stepE T k t = .ok j := by
  rw [step_ok, step_ok, at_namePut hx]
  by_cases e : p = k
  · subst e
    rw [if_pos rfl]
    constructor
    · rintro ⟨y, hy, h1, h2⟩
      cases hy
      simp only [look_ins] at h1 h2
      split at h2
      · rename_i e; cases h2; exact .inl ⟨rfl, e.symm, rfl⟩
      · exact .inr ⟨x, hx, h1, h2⟩
    · rintro (⟨_, rfl, rfl⟩ | ⟨y, hy, h1, h2⟩)
      · exact ⟨_, rfl, hd, by simp [look_ins]⟩
      · rw [hx] at hy; cases hy
        refine ⟨_, rfl, h1, ?_⟩
        simp only [look_ins]
        rw [if_neg (fun c => by subst c; rw [hn] at h2; cases h2)]; exact h2
  · rw [if_neg e]
    exact ⟨fun h => .inr h, fun h => h.resolve_left (fun c => e c.1.symm)⟩
/-- a node in the place of one, or of none, that has no names: the same steps -/
theorem step_leaf {y : Nod} (hy : y.names = []) (ho : ∀ x, nodeAt T y.num = some x → x.names = []) (k : Int) (t : ByteArray) (j : Int) : stepE (putN y T) k t = .ok j ↔ stepE T k t = .ok j := by
  rw [step_ok, step_ok, at_put]
  by_cases e : y.num = k
  · rw [if_pos e]
    constructor
    · rintro ⟨x, hx, _, h2⟩
      cases hx; rw [hy] at h2; cases h2
    · rintro ⟨x, hx, _, h2⟩
      rw [← e] at hx
      rw [ho x hx] at h2; cases h2
  · rw [if_neg e]
theorem step_drop {n : Int} (ho : ∀ x, nodeAt T n = some x → x.names = []) (k : Int) (t : ByteArray) (j : Int) : stepE (dropN n T) k t = .ok j ↔ stepE T k t = .ok j := by
  rw [step_ok, step_ok, at_drop]
  by_cases e : n = k
  · rw [if_pos e]
    constructor
    · rintro ⟨x, hx, _⟩; cases hx
    · rintro ⟨x, hx, _, h2⟩
      rw [← e] at hx
      rw [ho x hx] at h2; cases h2
  · rw [if_neg e]
theorem no_walk {n : Int} (ho : ∀ x, nodeAt T n = some x → x.names = []) {m : List ByteArray} {j : Int} (h : walkE T n m = .ok j) : m = [] ∧ j = n := by
  cases m with
  | nil => cases h; exact ⟨rfl, rfl⟩
  | cons s m =>
    rw [walkE] at h
    cases hs : stepE T n s with
    | error e => rw [hs] at h; cases h
    | ok i =>
      obtain ⟨x, hx, _, hl⟩ := step_ok.1 hs
      rw [ho x hx] at hl; cases hl
theorem walk_mono (h : ∀ k t j, stepE T k t = .ok j → stepE U k t = .ok j) : ∀ {l : List ByteArray} {k j : Int}, walkE T k l = .ok j → walkE U k l = .ok j
  | [], _, _, hw => hw
  | s :: l, k, j, hw => by
    rw [walkE] at hw ⊢
    cases hs : stepE T k s with
    | error e => rw [hs] at hw; cases hw
    | ok i =>
      rw [hs] at hw
      rw [h _ _ _ hs]
      exact walk_mono h hw
theorem IsPath.snoc_lt {s : ByteArray} {l a : List ByteArray} {t : ByteArray} (h : IsPath s l) (e : l = a ++ [t]) : a.length < 8 ∧ NameOk t := by
  have := h.2.1
  refine ⟨by rw [e] at this; simp at this; omega, h.1 t (by rw [e]; simp)⟩

/-- a leaf more, or a leaf's name more -/
theorem Good.grow (h : Good T) {a : List ByteArray} {p : Int} {s : ByteArray} {x y : Nod} (ha : walkE T 1 a = .ok p) (ha8 : a.length < 8) (hx : nodeAt T p = some x) (hd : x.dir = true) (hn : lookE x.names s = none) (hl : x.names.length < 60)
    (hs : NameOk s) (hy : NodeOk y) (hyn : y.names = []) (hy1 : y.num ≠ 1) (hyp : y.num ≠ p) (ho : ∀ z, nodeAt T y.num = some z → z.names = []) (hlen : (putN y T).length ≤ 60)
    (hlk : y.links = cnt T y.num + 1) (hdl : y.dir = true → y.links = 1) : Good (namePut (putN y T) p s y.num) := by
  have F := h.formed
  have r1 : RiseN (putN y T) := F.rise.put y
  have hx1 : nodeAt (putN y T) p = some x := by rw [at_put, if_neg hyp, hx]
  have hrx := F.riseE (at_mem hx).1
  have c1 : ∀ j, cnt (putN y T) j = cnt T j := fun j => by
    cases hz : nodeAt T y.num with
    | none => have := cnt_new F.rise hz j; rw [hyn] at this; simpa [cE, sumK] using this
    | some z => have := cnt_put F.rise hz j; rw [hyn, ho z hz] at this; simpa [cE, sumK] using this
  have st : ∀ k t j, stepE (namePut (putN y T) p s y.num) k t = .ok j ↔ (k = p ∧ t = s ∧ j = y.num) ∨ stepE T k t = .ok j := fun k t j => by
    rw [step_put hx1 hd hn, step_leaf hyn ho]
  have hat : ∀ k, nodeAt (namePut (putN y T) p s y.num) k = if p = k then some { x with names := insE s y.num x.names } else if y.num = k then some y else nodeAt T k := fun k => by
    rw [at_namePut hx1, at_put]
  have hnw : ∀ m, walkE T y.num m ≠ .ok p := fun m e => hyp (no_walk ho e).2.symm
  have G : Formed (namePut (putN y T) p s y.num) := by
    refine Formed.of (rise_namePut r1 _ _ _) (by rw [len_namePut r1 hx1]; exact hlen) (fun k z hz => ?_) ?_ (fun k t j hk => ?_) (fun k z hz hk => ?_)
    · rw [hat] at hz
      split at hz
      · cases hz; exact nodeOk_ins (F.nodeOk hx) hd hs hn hl _
      · split at hz
        · cases hz; exact hy
        · exact F.nodeOk hz
    · obtain ⟨r, h1, h2, h3⟩ := F.root
      rw [hat]
      by_cases e : p = 1
      · subst e; rw [hx] at h1; cases h1
        exact ⟨{ x with names := insE s y.num x.names }, by simp, h2, h3⟩
      · exact ⟨r, by rw [if_neg e, if_neg hy1, h1], h2, h3⟩
    · have ex : ∀ k z, nodeAt T k = some z → ∃ z', nodeAt (namePut (putN y T) p s y.num) k = some z' := fun k z hz => by
        rw [hat]; split
        · exact ⟨_, rfl⟩
        · split
          · exact ⟨_, rfl⟩
          · exact ⟨_, hz⟩
      rcases (st _ _ _).1 hk with ⟨_, _, rfl⟩ | hk
      · exact ⟨hy1, by rw [hat, if_neg (fun e => hyp e.symm), if_pos rfl]; exact ⟨_, rfl⟩⟩
      · obtain ⟨n1, z, hz⟩ := F.step_ne hk
        exact ⟨n1, ex _ z hz⟩
    · rw [cnt_namePut r1 hx1 hrx hn, c1]
      rw [hat] at hz
      split at hz
      · rename_i e
        cases hz
        have := F.links x (at_mem hx).1 (by rw [(at_mem hx).2, e]; exact hk)
        rw [(at_mem hx).2] at this
        subst e
        simp only
        rw [if_neg hyp]
        exact this
      · split at hz
        · rename_i e
          cases hz
          subst e
          rw [if_pos rfl]
          exact ⟨by simpa using hlk, by omega, hdl⟩
        · rename_i e
          rw [if_neg e]
          have := F.links z (at_mem hz).1 (by rw [(at_mem hz).2]; exact hk)
          rw [(at_mem hz).2] at this
          exact this
  have up : ∀ {l : List ByteArray} {k j : Int}, walkE T k l = .ok j → walkE (namePut (putN y T) p s y.num) k l = .ok j := fun hw => walk_mono (fun k t j h => (st k t j).2 (.inr h)) hw
  refine ⟨G, fun z hz hzd => ?_, fun l j hw => ?_⟩
  · have hz' := G.rise.at hz
    rw [hat] at hz'
    split at hz'
    · rename_i e
      exact ⟨a, by rw [← e]; exact up ha⟩
    · split at hz'
      · rename_i e
        exact ⟨a ++ [s], walk_snoc.2 ⟨p, up ha, (st _ _ _).2 (.inl ⟨rfl, rfl, e.symm⟩)⟩⟩
      · obtain ⟨l, hl⟩ := h.reach z (at_mem hz').1 hzd
        exact ⟨l, up hl⟩
  · rcases F.through ha hx hd hnw (fun k t j h => (st k t j).1 h) _ rfl hw with h1 | ⟨m, rfl, h1⟩
    · exact h.short l j h1
    · rw [(no_walk ho h1).1]
      simp; omega

/-- another name -/
theorem Good.moved (h : Good T) {a b : List ByteArray} {p d n : Int} {s was : ByteArray} {x : Nod} (hb : walkE T 1 b = .ok d) (hw : stepE T d was = .ok n) (ha : walkE T 1 a = .ok p) (hx : nodeAt T p = some x) (hd : x.dir = true)
    (hn : lookE x.names s = none) (hl : x.names.length < 60) (hs : NameOk s) (hp : ¬ (b ++ [was]) <+: a) (hdeep : ∀ m j, walkE T n m = .ok j → a.length + 1 + m.length ≤ 8) :
    Good (namePut (nameDel T d was) p s n) := by
  have F := h.formed
  obtain ⟨xd, hxd, dd, ld⟩ := step_ok.1 hw
  have hrd := F.riseE (at_mem hxd).1
  have r1 : RiseN (nameDel T d was) := rise_nameDel F.rise _ _
  obtain ⟨n1, xn, hxn⟩ := F.step_ne hw
  obtain ⟨x1, hx1, e1, e2, e3, e4, e5⟩ : ∃ x1, nodeAt (nameDel T d was) p = some x1 ∧ x1.dir = true ∧ lookE x1.names s = none ∧ x1.names.length < 60 ∧ NodeOk x1 ∧ Like x x1 := by
    rw [at_nameDel hxd]
    by_cases e : d = p
    · subst e
      rw [hxd] at hx; cases hx
      refine ⟨_, if_pos rfl, hd, ?_, ?_, nodeOk_del (F.nodeOk hxd) _, ⟨rfl, rfl, rfl, rfl⟩⟩
      · simp only [look_del]; split
        · rfl
        · exact hn
      · have := del_len hrd ld; simp only; omega
    · exact ⟨x, by rw [if_neg e, hx], hd, hn, hl, F.nodeOk hx, Like.refl x⟩
  have st : ∀ k t j, stepE (namePut (nameDel T d was) p s n) k t = .ok j ↔ (k = p ∧ t = s ∧ j = n) ∨ (stepE T k t = .ok j ∧ ¬ (k = d ∧ t = was)) := fun k t j => by
    rw [step_put hx1 e1 e2, step_del hxd]
  have c1 : ∀ j, cnt (namePut (nameDel T d was) p s n) j = cnt T j := fun j => by
    have h1 := cnt_namePut (k := n) r1 hx1 e4.rise e2 j
    have h2 := cnt_nameDel F.rise hxd hrd ld j
    omega
  have fw : ∀ k z, nodeAt T k = some z → ∃ z', nodeAt (namePut (nameDel T d was) p s n) k = some z' ∧ Like z z' := fun k z hz => by
    rw [at_namePut hx1]
    by_cases e : p = k
    · subst e
      rw [hx] at hz; cases hz
      exact ⟨_, if_pos rfl, ⟨e5.num, e5.dir, e5.links, e5.data⟩⟩
    · rw [if_neg e, at_nameDel hxd]
      by_cases e6 : d = k
      · subst e6
        rw [hxd] at hz; cases hz
        exact ⟨_, if_pos rfl, ⟨rfl, rfl, rfl, rfl⟩⟩
      · exact ⟨z, by rw [if_neg e6, hz], Like.refl z⟩
  have bw : ∀ k z', nodeAt (namePut (nameDel T d was) p s n) k = some z' → ∃ z, nodeAt T k = some z ∧ Like z z' := fun k z' hz => by
    cases hz0 : nodeAt T k with
    | some z =>
      obtain ⟨z2, h2, h3⟩ := fw k z hz0
      rw [h2] at hz; cases hz
      exact ⟨z, rfl, h3⟩
    | none =>
      rw [at_namePut hx1] at hz
      split at hz
      · rename_i e; rw [← e, hx] at hz0; cases hz0
      · rw [at_nameDel hxd] at hz
        split at hz
        · rename_i e; rw [← e, hxd] at hz0; cases hz0
        · rw [hz0] at hz; cases hz
  have hnb : ∀ m, walkE T n m ≠ .ok p := fun m e => by
    have w1 : walkE T 1 (b ++ [was] ++ m) = .ok p := by rw [walk_to (walk_snoc.2 ⟨d, hb, hw⟩)]; exact e
    have := F.path_uniq ha w1 hx hd
    exact hp ⟨m, this.symm⟩
  have G : Formed (namePut (nameDel T d was) p s n) := by
    refine Formed.of (rise_namePut r1 _ _ _) (by rw [len_namePut r1 hx1, len_nameDel F.rise hxd]; exact F.len) (fun k z hz => ?_) ?_ (fun k t j hk => ?_) (fun k z hz hk => ?_)
    · rw [at_namePut hx1] at hz
      split at hz
      · cases hz; exact nodeOk_ins e4 e1 hs e2 e3 _
      · rw [at_nameDel hxd] at hz
        split at hz
        · cases hz; exact nodeOk_del (F.nodeOk hxd) _
        · exact F.nodeOk hz
    · obtain ⟨r, h1, h2, h3⟩ := F.root
      obtain ⟨r', h4, h5⟩ := fw _ _ h1
      exact ⟨r', h4, h5.dir.trans h2, h5.links.trans h3⟩
    · rcases (st _ _ _).1 hk with ⟨_, _, rfl⟩ | ⟨hk, _⟩
      · obtain ⟨z, hz, _⟩ := fw _ _ hxn
        exact ⟨n1, z, hz⟩
      · obtain ⟨m1, z, hz⟩ := F.step_ne hk
        obtain ⟨z', hz', _⟩ := fw _ _ hz
        exact ⟨m1, z', hz'⟩
    · rw [c1]
      obtain ⟨z0, h0, h1⟩ := bw _ _ hz
      have := F.links z0 (at_mem h0).1 (by rw [(at_mem h0).2]; exact hk)
      rw [(at_mem h0).2] at this
      rw [h1.links, h1.dir]
      exact this
  have hup : walkE (namePut (nameDel T d was) p s n) 1 a = .ok p :=
    F.avoid hb hxd dd (fun k t j h1 h2 => (st k t j).2 (.inr ⟨h1, h2⟩)) _ rfl ha hp
  have keep : ∀ (c : Nat) {l : List ByteArray} {j : Int}, l.length = c → walkE T 1 l = .ok j → ∃ l', walkE (namePut (nameDel T d was) p s n) 1 l' = .ok j := by
    intro c
    induction c with
    | zero =>
      intro l j hc hl
      obtain rfl := List.eq_nil_of_length_eq_zero hc
      exact ⟨[], hl⟩
    | succ c ih =>
      intro l j hc hl
      rcases snoc_cases l with rfl | ⟨l, t, rfl⟩
      · simp at hc
      · obtain ⟨i, w1, s1⟩ := walk_snoc.1 hl
        obtain ⟨l', w2⟩ := ih (by simpa using hc) w1
        by_cases e : i = d ∧ t = was
        · obtain ⟨rfl, rfl⟩ := e
          rw [hw] at s1; cases s1
          exact ⟨a ++ [s], walk_snoc.2 ⟨p, hup, (st _ _ _).2 (.inl ⟨rfl, rfl, rfl⟩)⟩⟩
        · exact ⟨l' ++ [t], walk_snoc.2 ⟨i, w2, (st _ _ _).2 (.inr ⟨s1, e⟩)⟩⟩
  refine ⟨G, fun z hz hzd => ?_, fun l j hl => ?_⟩
  · obtain ⟨z0, h0, h1⟩ := bw _ _ (G.rise.at hz)
    obtain ⟨l, hl⟩ := h.reach z0 (at_mem h0).1 (by rw [← h1.dir]; exact hzd)
    rw [← h1.num] at hl
    exact keep _ rfl hl
  · rcases F.through ha hx hd hnb (fun k t j h => ((st k t j).1 h).imp id (fun c => c.1)) _ rfl hl with h1 | ⟨m, rfl, h1⟩
    · exact h.short l j h1
    · have := hdeep m j h1
      simp; omega

/-- a leaf's name less, or a leaf less -/
theorem Good.less (h : Good T) {b : List ByteArray} {d : Int} {was : ByteArray} {x : Nod} (hb : walkE T 1 b = .ok d) (hw : stepE T d was = .ok x.num) (hx : nodeAt T x.num = some x) (hn : x.names = []) :
    Good (if x.links - 1 = 0 then dropN x.num (nameDel T d was) else putN { x with links := x.links - 1 } (nameDel T d was)) := by
  have F := h.formed
  obtain ⟨xd, hxd, dd, ld⟩ := step_ok.1 hw
  have hrd := F.riseE (at_mem hxd).1
  have r1 : RiseN (nameDel T d was) := rise_nameDel F.rise _ _
  obtain ⟨n1, _, _⟩ := F.step_ne hw
  have hdn : d ≠ x.num := fun e => by rw [e, hx] at hxd; cases hxd; rw [hn] at ld; cases ld
  have hx1 : nodeAt (nameDel T d was) x.num = some x := by rw [at_nameDel hxd, if_neg hdn, hx]
  have hlk := F.links x (at_mem hx).1 n1
  obtain ⟨U, hU⟩ : ∃ U, (if x.links - 1 = 0 then dropN x.num (nameDel T d was) else putN { x with links := x.links - 1 } (nameDel T d was)) = U := ⟨_, rfl⟩
  have hr : RiseN U := by rw [← hU]; split; exact r1.drop _; exact r1.put _
  have hat : ∀ k, nodeAt U k = if x.num = k then (if x.links - 1 = 0 then none else some { x with links := x.links - 1 }) else if d = k then some { xd with names := delE was xd.names } else nodeAt T k := fun k => by
    rw [← hU]
    split
    · rename_i e
      rw [at_drop, at_nameDel hxd]
    · rename_i e
      rw [at_put, at_nameDel hxd]
  have c1 : ∀ j, cnt U j + (if x.num = j then 1 else 0) = cnt T j := fun j => by
    have h1 := cnt_nameDel F.rise hxd hrd ld j
    have h2 : cnt U j = cnt (nameDel T d was) j := by
      rw [← hU]
      split
      · have := cnt_drop r1 hx1 j; rw [hn] at this; simpa [cE, sumK] using this
      · have := cnt_put (x := { x with links := x.links - 1 }) r1 (y := x) hx1 j; rw [hn] at this; simpa [cE, sumK, hn] using this
    omega
  have st : ∀ k t j, stepE U k t = .ok j ↔ stepE T k t = .ok j ∧ ¬ (k = d ∧ t = was) := fun k t j => by
    have ho : ∀ z, nodeAt (nameDel T d was) x.num = some z → z.names = [] := fun z hz => by rw [hx1] at hz; cases hz; exact hn
    rw [← step_del hxd, ← hU]
    split
    · exact step_drop ho k t j
    · exact step_leaf (y := { x with links := x.links - 1 }) hn ho k t j
  have hlen : U.length ≤ 60 := by
    have h1 := F.len
    have h2 := len_nameDel (s := was) F.rise hxd
    rw [← hU]
    split
    · have := lenN_drop r1 hx1; omega
    · rw [lenN_put (x := { x with links := x.links - 1 }) r1 (y := x) hx1]; omega
  rw [hU]
  have G : Formed U := by
    refine Formed.of hr hlen (fun k z hz => ?_) ?_ (fun k t j hk => ?_) (fun k z hz hk => ?_)
    · rw [hat] at hz
      split at hz
      · split at hz
        · cases hz
        · cases hz
          have := F.nodeOk hx
          exact this
      · split at hz
        · cases hz; exact nodeOk_del (F.nodeOk hxd) _
        · exact F.nodeOk hz
    · obtain ⟨r, h1, h2, h3⟩ := F.root
      rw [hat, if_neg n1]
      by_cases e : d = 1
      · subst e; rw [hxd] at h1; cases h1
        exact ⟨{ xd with names := delE was xd.names }, by simp, h2, h3⟩
      · exact ⟨r, by rw [if_neg e, h1], h2, h3⟩
    · obtain ⟨hk1, hk2⟩ := (st _ _ _).1 hk
      obtain ⟨m1, z, hz⟩ := F.step_ne hk1
      refine ⟨m1, ?_⟩
      rw [hat]
      by_cases e : x.num = j
      · rw [if_pos e]
        by_cases e2 : x.links - 1 = 0
        · exfalso
          obtain ⟨y, hy, _, hl⟩ := step_ok.1 hk
          have p1 := c_pos (look_mem hl)
          have p2 : cE y.names j ≤ cnt U j := sum_mem (f := fun x => cE x.names j) (at_mem hy).1
          have p3 := c1 j
          rw [if_pos e] at p3
          rw [e] at hlk
          simp only at p1
          omega
        · rw [if_neg e2]; exact ⟨_, rfl⟩
      · rw [if_neg e]
        split
        · exact ⟨_, rfl⟩
        · exact ⟨z, hz⟩
    · have p3 := c1 k
      rw [hat] at hz
      split at hz
      · rename_i e
        rw [if_pos e] at p3
        rw [e] at hlk
        split at hz
        · cases hz
        · cases hz
          refine ⟨?_, ?_, fun hd => ?_⟩ <;> simp only at * <;> first | omega | (have := hlk.2.2 hd; omega)
      · rename_i e
        rw [if_neg e] at p3
        split at hz
        · rename_i e2
          cases hz
          have := F.links xd (at_mem hxd).1 (by rw [(at_mem hxd).2, e2]; exact hk)
          rw [(at_mem hxd).2, e2] at this
          simp only
          rw [show cnt U k = cnt T k by omega]; exact this
        · have := F.links z (at_mem hz).1 (by rw [(at_mem hz).2]; exact hk)
          rw [(at_mem hz).2] at this
          rw [show cnt U k = cnt T k by omega]; exact this
  refine ⟨G, fun z hz hzd => ?_, fun l j hl => h.short l j (walk_mono (fun k t j h => ((st k t j).1 h).1) hl)⟩
  have hz' := G.rise.at hz
  have hzn : z.num ≠ x.num := fun e => by
    rw [hat, if_pos e.symm] at hz'
    split at hz'
    · cases hz'
    · rename_i e2
      cases hz'
      have := hlk.2.2 hzd
      omega
  obtain ⟨z0, h0, h1, h2⟩ : ∃ z0, nodeAt T z.num = some z0 ∧ z0.num = z.num ∧ z0.dir = true := by
    rw [hat, if_neg (fun e => hzn e.symm)] at hz'
    split at hz'
    · rename_i e
      have e3 := congrArg Nod.dir (Option.some.inj hz')
      exact ⟨xd, by rw [← e, hxd], by rw [← e, (at_mem hxd).2], by simp only at e3; rw [e3]; exact hzd⟩
    · exact ⟨z, hz', rfl, hzd⟩
  obtain ⟨l, hl⟩ := h.reach z0 (at_mem h0).1 h2
  rw [h1] at hl
  refine ⟨l, F.avoid hb hxd dd (fun k t j h1 h2 => (st k t j).2 ⟨h1, h2⟩) _ rfl hl ?_⟩
  rintro ⟨m, rfl⟩
  rw [walk_to (walk_snoc.2 ⟨d, hb, hw⟩)] at hl
  exact hzn (no_walk (fun y hy => by rw [hx] at hy; cases hy; exact hn) hl).2

/-- other bytes -/
theorem Good.data (h : Good T) {x : Nod} (hx : nodeAt T x.num = some x) (hd : x.dir = false) {s : ByteArray} (hs : s.size ≤ 16384) : Good (putN { x with data := s } T) := by
  have F := h.formed
  have ho := F.nodeOk hx
  have hn := (ho.2.1 hd).1
  have hat : ∀ k, nodeAt (putN { x with data := s } T) k = if x.num = k then some { x with data := s } else nodeAt T k := fun k => at_put _ _ _
  have st : ∀ k t j, stepE (putN { x with data := s } T) k t = .ok j ↔ stepE T k t = .ok j :=
    fun k t j => step_leaf (y := { x with data := s }) hn (fun z hz => by simp only at hz; rw [hx] at hz; cases hz; exact hn) k t j
  have c1 : ∀ j, cnt (putN { x with data := s } T) j = cnt T j := fun j => by
    have := cnt_put (x := { x with data := s }) F.rise (y := x) hx j; simp only at this; omega
  have ex : ∀ k z, nodeAt T k = some z → ∃ z', nodeAt (putN { x with data := s } T) k = some z' ∧ z'.dir = z.dir ∧ z'.links = z.links := fun k z hz => by
    rw [hat]
    split
    · rename_i e
      rw [← e, hx] at hz; cases hz
      exact ⟨_, rfl, rfl, rfl⟩
    · exact ⟨z, hz, rfl, rfl⟩
  have G : Formed (putN { x with data := s } T) := by
    refine Formed.of (F.rise.put _) (by rw [lenN_put (x := { x with data := s }) F.rise (y := x) hx]; exact F.len) (fun k z hz => ?_) ?_ (fun k t j hk => ?_) (fun k z hz hk => ?_)
    · rw [hat] at hz
      split at hz
      · cases hz
        exact ⟨ho.1, fun _ => ⟨hn, hs⟩, fun e => by simp only at e; rw [hd] at e; cases e⟩
      · exact F.nodeOk hz
    · obtain ⟨r, h1, h2, h3⟩ := F.root
      obtain ⟨r', h4, h5, h6⟩ := ex _ _ h1
      exact ⟨r', h4, h5.trans h2, h6.trans h3⟩
    · obtain ⟨m1, z, hz⟩ := F.step_ne ((st _ _ _).1 hk)
      obtain ⟨z', hz', _⟩ := ex _ _ hz
      exact ⟨m1, z', hz'⟩
    · rw [c1]
      rw [hat] at hz
      split at hz
      · rename_i e
        cases hz
        have := F.links x (at_mem hx).1 (by rw [e]; exact hk)
        rw [e] at this
        exact this
      · have := F.links z (at_mem hz).1 (by rw [(at_mem hz).2]; exact hk)
        rw [(at_mem hz).2] at this
        exact this
  refine ⟨G, fun z hz hzd => ?_, fun l j hl => h.short l j (walk_mono (fun k t j h => (st k t j).1 h) hl)⟩
  have hz' := G.rise.at hz
  rw [hat] at hz'
  split at hz'
  · have := congrArg Nod.dir (Option.some.inj hz')
    simp only at this; rw [hd, hzd] at this; cases this
  · obtain ⟨l, hl⟩ := h.reach z (at_mem hz').1 hzd
    exact ⟨l, walk_mono (fun k t j h => (st k t j).2 h) hl⟩
end
end Go.Proofs.YtfokdmijkniomaaGreatDoor

namespace Go.Proofs.YtfokdmijkniomaaGreatDoor
open Go.RowKit Go

section
variable {T : List Nod}
theorem Good.fits (h : Good T) {l : List ByteArray} {k : Int} (hw : walkE T 1 l = .ok k) : Fits T (8 - l.length) k := fun m j hm => by
  have := h.short (l ++ m) j (by rw [walk_to hw]; exact hm)
  simp at this; omega
theorem Fits.mono {f g : Nat} {k : Int} (h : Fits T f k) (hg : f ≤ g) : Fits T g k := fun m j hm => Nat.le_trans (h m j hm) hg
theorem Good.fits8 (h : Good T) {l : List ByteArray} {k : Int} (hw : walkE T 1 l = .ok k) : Fits T 8 k := (h.fits hw).mono (by omega)
theorem Formed.riseAll (h : Formed T) : ∀ x ∈ T, RiseE x.names := fun _ hx => h.riseE hx
theorem Good.make (h : Good T) {s : ByteArray} {l : List ByteArray} (hp : IsPath s l) (dir : Bool) : Good (makeV T l dir).1 := by
  unfold makeV
  split
  · exact h
  · rename_i p t hpl
    split
    · exact h
    · rename_i hlen
      obtain ⟨el, hw, x, hx, hd, hn, hl⟩ := placeE_ok hpl
      obtain ⟨a8, ht⟩ := hp.snoc_lt el
      have hf := free_is h.formed.rise
      have hf2 := free_le h.formed.rise
      have := h.formed.len
      refine h.grow (y := ⟨freeV T, dir, 1, ⟨#[]⟩, []⟩) hw a8 hx hd hn hl ht ?_ rfl ?_ ?_ ?_ ?_ ?_ ?_
      · refine ⟨⟨by have := hf.two; simp only; omega, by simp only; omega⟩, fun _ => ⟨rfl, ?_⟩, fun _ => ⟨rfl, List.Pairwise.nil, by simp, by simp⟩⟩
        show (0 : Nat) ≤ 16384
        omega
      · have := hf.two; simp only; omega
      · intro e
        simp only at e
        have := hf.none
        rw [e, hx] at this; cases this
      · intro z hz
        simp only at hz
        rw [hf.none] at hz; cases hz
      · rw [lenN_new h.formed.rise hf.none]; omega
      · simp only; rw [h.formed.cnt_none hf.none]; rfl
      · intro _; rfl
theorem Good.link (h : Good T) {s : ByteArray} {l m : List ByteArray} (hp : IsPath s m) : Good (linkV T l m).1 := by
  unfold linkV
  split
  · exact h
  · rename_i x hx0
    obtain ⟨hx1, xf⟩ := fileE_ok hx0
    obtain ⟨_, hx⟩ := findE_ok hx1
    split
    · exact h
    · rename_i p t hpl
      obtain ⟨el, hw, y, hy, hd, hn, hl⟩ := placeE_ok hpl
      obtain ⟨a8, ht⟩ := hp.snoc_lt el
      have F := h.formed
      have ho := F.nodeOk hx
      have hxn := (ho.2.1 xf).1
      have h1 : x.num ≠ 1 := fun e => by
        obtain ⟨r, hr, hrd, _⟩ := F.root
        rw [← e, hx] at hr; cases hr; rw [xf] at hrd; cases hrd
      refine h.grow (y := { x with links := x.links + 1 }) hw a8 hy hd hn hl ht ho hxn h1 ?_ ?_ ?_ ?_ ?_
      · intro e
        simp only at e
        rw [← e, hx] at hy; cases hy; rw [xf] at hd; cases hd
      · intro z hz
        simp only at hz
        rw [hx] at hz; cases hz; exact hxn
      · rw [lenN_put (x := { x with links := x.links + 1 }) F.rise (y := x) hx]; exact F.len
      · have := (F.links x (at_mem hx).1 h1).1
        simp only
        omega
      · intro e; simp only at e; rw [xf] at e; cases e
theorem Good.rename (h : Good T) {s t : ByteArray} {l m : List ByteArray} (_ : IsPath s l) (hm : IsPath t m) : Good (renameV T l m).1 := by
  unfold renameV
  split
  · exact h
  · rename_i hl0
    split
    · exact h
    · rename_i x hx0
      obtain ⟨hw, hx⟩ := findE_ok hx0
      split
      · exact h
      · rename_i hu
        split
        · exact h
        · rename_i p r hpl
          split
          · exact h
          · rename_i hdp
            obtain ⟨el, hpw, y, hy, hd, hn, hl⟩ := placeE_ok hpl
            obtain ⟨a8, hr⟩ := hm.snoc_lt el
            obtain ⟨e1, e2, e3⟩ := up_ok hl0 hw
            refine h.moved e2 e3 hpw hy hd hn hl hr ?_ ?_
            · rw [← e1]
              intro c
              refine hu ⟨?_, ?_⟩
              · rw [el]; exact prefix_snoc c
              · rintro rfl
                have h1 := c.length_le
                have h2 := congrArg List.length e1
                rw [List.length_append, List.length_singleton] at h2
                omega
            · intro n j hj
              have h1 := deep_ge (h.fits8 hw) hj
              have h2 := congrArg List.length el
              rw [List.length_append, List.length_singleton] at h2
              omega
theorem Good.remove (h : Good T) (l : List ByteArray) : Good (removeV T l).1 := by
  unfold removeV
  split
  · exact h
  · rename_i hl0
    split
    · exact h
    · rename_i x hx0
      split
      · exact h
      · rename_i hn
        obtain ⟨hw, hx⟩ := findE_ok hx0
        obtain ⟨e1, e2, e3⟩ := up_ok hl0 hw
        exact h.less e2 e3 hx (by simpa using hn)
theorem wrote_size {d s : ByteArray} {a : Nat} (ha : a ≤ d.size) : (wrote d a s).size = max d.size (a + s.size) := by
  have e1 : d.data.toList.length = d.size := Array.length_toList (xs := d.data)
  have e2 : s.data.toList.length = s.size := Array.length_toList (xs := s.data)
  unfold wrote
  rw [bs_size]
  simp only [List.length_append, List.length_take, List.length_drop, e1, e2]
  omega
theorem firsts_size (d : ByteArray) (a : Nat) : (firsts d a).size = min a d.size := by
  have e1 : d.data.toList.length = d.size := Array.length_toList (xs := d.data)
  unfold firsts
  rw [bs_size, List.length_take, e1]
theorem Good.write (h : Good T) (l : List ByteArray) {a : Int} (ha : 0 ≤ a) (s : ByteArray) : Good (writeV T l a s).1 := by
  unfold writeV
  split
  · exact h
  · rename_i x hx0
    obtain ⟨hx1, xf⟩ := fileE_ok hx0
    obtain ⟨_, hx⟩ := findE_ok hx1
    split
    · exact h
    · rename_i hc
      refine h.data hx xf ?_
      have := ((h.formed.nodeOk hx).2.1 xf).2
      rw [wrote_size (by omega)]
      omega
theorem Good.cut (h : Good T) (l : List ByteArray) (a : Int) : Good (cutV T l a).1 := by
  unfold cutV
  split
  · exact h
  · rename_i x hx0
    obtain ⟨hx1, xf⟩ := fileE_ok hx0
    obtain ⟨_, hx⟩ := findE_ok hx1
    split
    · exact h
    · refine h.data hx xf ?_
      have := ((h.formed.nodeOk hx).2.1 xf).2
      rw [firsts_size]
      omega
theorem mayC_kind {c : Cmd} (h : MayC c) {k : Nat} (hk : c.kind = k) : k < 9 ∧ MayK c k := by
  obtain ⟨j, h1, h2, h3⟩ := h
  have : j = k := by omega
  subst this
  exact ⟨h1, h3⟩
theorem mayK_path {c : Cmd} {k : Nat} (hk : k < 7) (h : MayK c k) : PathOk c.path := by
  have : k = 0 ∨ k = 1 ∨ k = 2 ∨ k = 3 ∨ k = 4 ∨ k = 5 ∨ k = 6 := by omega
  rcases this with rfl | rfl | rfl | rfl | rfl | rfl | rfl <;> exact h.1
theorem namesOf_path {s : ByteArray} (h : PathOk s) : IsPath s (namesOf s) := by
  obtain ⟨l, hl⟩ := h
  rw [namesOf_is hl]; exact hl
theorem Good.does (h : Good T) (c : Cmd) : Good (doV T c).1 := by
  unfold doV
  split
  · exact h
  rename_i hm
  have hm : MayC c := Classical.byContradiction hm
  split
  · rename_i hk
    exact h.make (namesOf_path (mayK_path (k := 0) (by omega) (mayC_kind hm hk).2)) _
  split
  · rename_i hk
    exact h.make (namesOf_path (mayK_path (k := 1) (by omega) (mayC_kind hm hk).2)) _
  split
  · rename_i hk
    have : MayK c 2 := (mayC_kind hm hk).2
    exact h.write _ this.2.2.1.1 _
  split
  · exact h.cut _ _
  split
  · rename_i hk
    have : MayK c 4 := (mayC_kind hm hk).2
    exact h.link (namesOf_path this.2.1)
  split
  · rename_i hk
    have : MayK c 5 := (mayC_kind hm hk).2
    exact h.rename (namesOf_path this.1) (namesOf_path this.2.1)
  split
  · exact h.remove _
  · exact h

/-! ### What is refused -/
theorem step_err {k : Int} {s : ByteArray} {e : Int} (h : stepE T k s = .error e) : e = 141 ∨ e = 143 := by
  unfold stepE at h
  split at h
  · cases h; exact .inl rfl
  · split at h
    · split at h
      · cases h; exact .inl rfl
      · cases h
    · cases h; exact .inr rfl
theorem walk_err : ∀ {l : List ByteArray} {k e : Int}, walkE T k l = .error e → e = 141 ∨ e = 143
  | [], _, _, h => by cases h
  | s :: l, k, e, h => by
    rw [walkE] at h
    cases hs : stepE T k s with
    | error i => rw [hs] at h; cases h; exact step_err hs
    | ok j => rw [hs] at h; exact walk_err h
theorem find_err {l : List ByteArray} {e : Int} (h : findE T l = .error e) : e = 141 ∨ e = 143 := by
  unfold findE at h
  split at h
  · rename_i hw; cases h; exact walk_err hw
  · split at h
    · cases h; exact .inl rfl
    · cases h
theorem file_err {l : List ByteArray} {e : Int} (h : fileE T l = .error e) : e = 141 ∨ e = 143 := by
  unfold fileE at h
  split at h
  · rename_i hw; cases h; exact find_err hw
  · split at h
    · cases h; exact .inr rfl
    · cases h
theorem place_err {l : List ByteArray} {e : Int} (h : placeE T l = .error e) : 141 ≤ e ∧ e ≤ 145 := by
  unfold placeE at h
  split at h
  · cases h; omega
  · split at h
    · rename_i hw; cases h; have := walk_err hw; omega
    · split at h
      · cases h; omega
      · split at h
        · cases h; omega
        · split at h
          · cases h; omega
          · split at h
            · cases h; omega
            · cases h
end
end Go.Proofs.YtfokdmijkniomaaGreatDoor

namespace Go.Proofs.YtfokdmijkniomaaGreatDoor
open Go.RowKit Go

/-! ### Nodes as others see them -/
structure Nde where
  num : Int
  dir : Bool
  links : Int
  data : ByteArray
def toldB (x : Nod) : ByteArray := if x.dir = true then bs (laidL kE x.names) else x.data
def told (x : Nod) : Nde := ⟨x.num, x.dir, x.links, toldB x⟩
def tolds (T : List Nod) : List Nde := T.map told
theorem may_of_rise {l : List Ent} (h : RiseE l) (hl : l.length ≤ 4096) (ho : ∀ e ∈ l, EntOk e) : May kE l := by
  refine ⟨hl, fun i hi _ => ⟨ho _ (List.getElem_mem _), fun h0 => ?_⟩⟩
  exact (List.pairwise_iff_getElem.1 h) (i - 1) i (by omega) hi (by omega)
theorem rise_of_may {l : List Ent} (h : May kE l) : RiseE l := by
  have : ∀ (n i j : Nat) (hi : i < l.length) (hj : j < l.length), j = i + n + 1 → ltB l[i].name l[j].name = true := by
    intro n
    induction n with
    | zero =>
      intro i j hi hj e
      subst e
      exact (h.2 (i + 1) hj hj).2 (by omega)
    | succ n ih =>
      intro i j hi hj e
      have h1 := ih i (j - 1) hi (by omega) (by omega)
      have h2 : ltB (l[j - 1]'(by omega)).name l[j].name = true := (h.2 j hj hj).2 (by omega)
      exact ordB.trans _ _ _ h1 h2
  exact List.pairwise_iff_getElem.2 fun i j hi hj hij => this (j - i - 1) i j hi hj (by omega)
theorem Formed.entOk {T : List Nod} (h : Formed T) {x : Nod} (hx : x ∈ T) {e : Ent} (he : e ∈ x.names) : EntOk e := by
  obtain ⟨y, hy⟩ := (h.kids x hx e he).2
  have := h.num y (at_mem hy).1
  rw [(at_mem hy).2] at this
  exact ⟨(h.dir x hx (h.dirOf hx he)).2.2.2 e he, this⟩
theorem Formed.may {T : List Nod} (h : Formed T) {x : Nod} (hx : x ∈ T) (hd : x.dir = true) : May kE x.names := by
  obtain ⟨_, h2, h3, _⟩ := h.dir x hx hd
  exact may_of_rise h2 (by omega) fun e he => h.entOk hx he
theorem Formed.isL {T : List Nod} (h : Formed T) {x : Nod} (hx : x ∈ T) (hd : x.dir = true) : IsL kE (toldB x).data.toList x.names := by
  unfold toldB
  rw [if_pos hd, bs_list]
  exact ⟨h.may hx hd, rfl⟩
/-! ### Directories below one -/
def isDir (T : List Nod) (k : Int) : Bool := match nodeAt T k with
  | some x => x.dir
  | none => false
def namesAt (T : List Nod) (k : Int) : List Ent := match nodeAt T k with
  | some x => x.names
  | none => []
theorem isDir_iff {T : List Nod} {k : Int} : isDir T k = true ↔ ∃ x, nodeAt T k = some x ∧ x.dir = true := by
  unfold isDir
  cases nodeAt T k with
  | none => simp
  | some x => simp
theorem isDir_at {T : List Nod} {k : Int} {x : Nod} (h : nodeAt T k = some x) : isDir T k = x.dir ∧ namesAt T k = x.names := by
  unfold isDir namesAt; rw [h]; exact ⟨rfl, rfl⟩
theorem step_iff {T : List Nod} {k j : Int} {s : ByteArray} : stepE T k s = .ok j ↔ isDir T k = true ∧ lookE (namesAt T k) s = some j := by
  rw [step_ok]
  unfold isDir namesAt
  cases nodeAt T k with
  | none => simp
  | some x => simp
def RiseAll (T : List Nod) : Prop := ∀ x ∈ T, RiseE x.names
theorem RiseAll.at {T : List Nod} (h : RiseAll T) (k : Int) : RiseE (namesAt T k) := by
  unfold namesAt
  split
  · rename_i x hx; exact h x (at_mem hx).1
  · exact List.Pairwise.nil
def dirsP (T : List Nod) : Nat → Int → List (List ByteArray)
  | 0, k => if isDir T k = true then [[]] else []
  | f + 1, k => if isDir T k = true then [] :: (namesAt T k).flatMap (fun e => (dirsP T f e.num).map (e.name :: ·)) else []
def dirsN (T : List Nod) : Nat → Int → List Int
  | 0, k => if isDir T k = true then [k] else []
  | f + 1, k => if isDir T k = true then k :: (namesAt T k).flatMap (fun e => dirsN T f e.num) else []
def endOf (T : List Nod) (k : Int) (p : List ByteArray) : Int := match walkE T k p with
  | .ok j => j
  | .error _ => 0
section
variable {T : List Nod}
theorem dirsP_mem (hr : RiseAll T) : ∀ {f : Nat} {k : Int} {p : List ByteArray}, p ∈ dirsP T f k → ∃ j, walkE T k p = .ok j ∧ isDir T j = true
  | 0, k, p, h => by
    rw [dirsP] at h
    split at h
    · rename_i hd
      rw [List.mem_singleton.1 h]; exact ⟨k, rfl, hd⟩
    · cases h
  | f + 1, k, p, h => by
    rw [dirsP] at h
    split at h
    · rename_i hd
      rcases List.mem_cons.1 h with rfl | h
      · exact ⟨k, rfl, hd⟩
      · obtain ⟨e, he, h1⟩ := List.mem_flatMap.1 h
        obtain ⟨q, hq, rfl⟩ := List.mem_map.1 h1
        obtain ⟨j, h2, h3⟩ := dirsP_mem hr hq
        have hs : stepE T k e.name = .ok e.num := step_iff.2 ⟨hd, (hr.at k).look he⟩
        exact ⟨j, by rw [walkE, hs]; exact h2, h3⟩
    · cases h
theorem dirsP_of : ∀ {f : Nat} {k : Int} {p : List ByteArray} {j : Int}, Fits T f k → walkE T k p = .ok j → isDir T j = true → p ∈ dirsP T f k
  | 0, k, p, j, hf, hw, hd => by
    obtain rfl := List.eq_nil_of_length_eq_zero (Nat.le_zero.1 (hf p j hw))
    cases hw
    rw [dirsP, if_pos hd]; simp
  | f + 1, k, [], j, _, hw, hd => by
    cases hw
    rw [dirsP, if_pos hd]; simp
  | f + 1, k, s :: p, j, hf, hw, hd => by
    rw [walkE] at hw
    cases hs : stepE T k s with
    | error e => rw [hs] at hw; cases hw
    | ok i =>
      rw [hs] at hw
      have ih := dirsP_of (hf.step hs) hw hd
      obtain ⟨h1, h2⟩ := step_iff.1 hs
      rw [dirsP, if_pos h1]
      exact List.mem_cons_of_mem _ (List.mem_flatMap.2 ⟨⟨s, i⟩, look_mem h2, List.mem_map.2 ⟨p, ih, rfl⟩⟩)
theorem dirsP_nodup (hr : RiseAll T) : ∀ (f : Nat) (k : Int), (dirsP T f k).Nodup
  | 0, k => by
    rw [dirsP]
    split
    · exact List.pairwise_singleton _ _
    · exact List.Pairwise.nil
  | f + 1, k => by
    rw [dirsP]
    split
    · refine List.nodup_cons.2 ⟨fun h => ?_, ?_⟩
      · obtain ⟨e, _, h1⟩ := List.mem_flatMap.1 h
        obtain ⟨q, _, h2⟩ := List.mem_map.1 h1
        cases h2
      · refine List.pairwise_flatMap.2 ⟨fun e _ => List.pairwise_map.2 ((dirsP_nodup hr f e.num).imp fun hne he => hne (List.cons.inj he).2), ?_⟩
        refine (hr.at k).imp fun {a b} hab x hx y hy e => ?_
        obtain ⟨q, _, rfl⟩ := List.mem_map.1 hx
        obtain ⟨r, _, rfl⟩ := List.mem_map.1 hy
        rw [(List.cons.inj e).1, ordB.irr] at hab
        cases hab
    · exact List.Pairwise.nil
theorem dirsN_is (hr : RiseAll T) : ∀ (f : Nat) (k : Int), dirsN T f k = (dirsP T f k).map (endOf T k)
  | 0, k => by
    rw [dirsN, dirsP]
    split
    · rfl
    · rfl
  | f + 1, k => by
    rw [dirsN, dirsP]
    split
    · rename_i hd
      rw [List.map_cons]
      congr 1
      rw [List.map_flatMap]
      have : ∀ (l : List Ent), (∀ e ∈ l, e ∈ namesAt T k) → l.flatMap (fun e => dirsN T f e.num) = l.flatMap (fun e => ((dirsP T f e.num).map (e.name :: ·)).map (endOf T k)) := by
        intro l
        induction l with
        | nil => intro _; rfl
        | cons e l ih =>
          intro hl
          rw [List.flatMap_cons, List.flatMap_cons, ih fun x hx => hl x (List.mem_cons_of_mem _ hx), dirsN_is hr f e.num, List.map_map]
          congr 1
          refine List.map_congr_left fun p _ => ?_
          have hs : stepE T k e.name = .ok e.num := step_iff.2 ⟨hd, (hr.at k).look (hl e (by simp))⟩
          simp only [endOf, Function.comp, walkE, hs]
      exact this _ fun e he => he
    · rfl
theorem dirsN_mem (hr : RiseAll T) {f : Nat} {k j : Int} (h : j ∈ dirsN T f k) : ∃ p, walkE T k p = .ok j ∧ isDir T j = true := by
  rw [dirsN_is hr] at h
  obtain ⟨p, hp, rfl⟩ := List.mem_map.1 h
  obtain ⟨i, h1, h2⟩ := dirsP_mem hr hp
  have : endOf T k p = i := by unfold endOf; rw [h1]
  rw [this]
  exact ⟨p, h1, h2⟩
theorem dirsN_of (hr : RiseAll T) {f : Nat} {k j : Int} {p : List ByteArray} (hf : Fits T f k) (hw : walkE T k p = .ok j) (hd : isDir T j = true) : j ∈ dirsN T f k := by
  rw [dirsN_is hr]
  exact List.mem_map.2 ⟨p, dirsP_of hf hw hd, by unfold endOf; rw [hw]⟩
def allDirs (T : List Nod) : List Int := (T.filter (·.dir)).map (·.num)
theorem allDirs_mem (hr : RiseN T) {j : Int} : j ∈ allDirs T ↔ isDir T j = true := by
  rw [isDir_iff]
  unfold allDirs
  constructor
  · intro h
    obtain ⟨x, hx, rfl⟩ := List.mem_map.1 h
    obtain ⟨h1, h2⟩ := List.mem_filter.1 hx
    exact ⟨x, hr.at h1, h2⟩
  · rintro ⟨x, hx, hd⟩
    exact List.mem_map.2 ⟨x, List.mem_filter.2 ⟨(at_mem hx).1, hd⟩, (at_mem hx).2⟩
theorem allDirs_nodup (hr : RiseN T) : (allDirs T).Nodup := by
  unfold allDirs
  refine List.pairwise_map.2 ((List.Pairwise.filter _ hr).imp fun {a b} h e => ?_)
  rw [e, ordI.irr] at h; cases h
theorem allDirs_len (T : List Nod) : (allDirs T).length ≤ T.length := by
  unfold allDirs
  rw [List.length_map]
  exact List.length_filter_le _ _
theorem sub_len : ∀ {l m : List Int}, l.Nodup → (∀ x ∈ l, x ∈ m) → l.length ≤ m.length
  | [], _, _, _ => Nat.zero_le _
  | x :: l, m, hn, hs => by
    obtain ⟨h1, h2⟩ := List.nodup_cons.1 hn
    have hx := hs x (by simp)
    have := sub_len (l := l) (m := m.erase x) h2 fun y hy => (List.mem_erase_of_ne (fun e => by subst e; exact h1 hy)).2 (hs y (List.mem_cons_of_mem _ hy))
    rw [List.length_erase_of_mem hx] at this
    have := List.length_pos_of_mem hx
    simp only [List.length_cons]
    omega
theorem sub_eq {l m : List Int} (hl : l.Nodup) (hs : ∀ x ∈ l, x ∈ m) (he : m.length ≤ l.length) : ∀ x ∈ m, x ∈ l := by
  intro x hx
  refine Classical.byContradiction fun hn => ?_
  have := sub_len (l := x :: l) (m := m) (List.nodup_cons.2 ⟨hn, hl⟩) fun y hy => by
    rcases List.mem_cons.1 hy with rfl | hy
    · exact hx
    · exact hs y hy
  simp only [List.length_cons] at this
  omega
theorem Formed.dirs_nodup (h : Formed T) (f : Nat) : (dirsN T f 1).Nodup := by
  rw [dirsN_is h.riseAll]
  refine List.pairwise_map.2 (List.Pairwise.imp_of_mem (fun {a b} ha hb hne e => ?_) (dirsP_nodup h.riseAll f 1))
  obtain ⟨i, h1, h2⟩ := dirsP_mem h.riseAll ha
  obtain ⟨j, h3, _⟩ := dirsP_mem h.riseAll hb
  unfold endOf at e
  rw [h1, h3] at e
  simp only at e
  subst e
  obtain ⟨z, hz, hd⟩ := isDir_iff.1 h2
  exact hne (h.path_uniq h1 h3 hz hd)
/-- a path has no more names than there are directories -/
theorem Formed.chain (h : Formed T) : ∀ (n : Nat) {p : List ByteArray} {j : Int}, p.length = n → walkE T 1 p = .ok j → ∃ L : List Int, L.length = n ∧ L.Nodup ∧ ∀ k ∈ L, isDir T k = true ∧ ∃ q, q.length < n ∧ walkE T 1 q = .ok k := by
  intro n
  induction n with
  | zero => intro p j _ _; exact ⟨[], rfl, List.Pairwise.nil, fun k hk => by cases hk⟩
  | succ n ih =>
    intro p j hp hw
    rcases snoc_cases p with rfl | ⟨a, s, rfl⟩
    · simp at hp
    · obtain ⟨i, w1, s1⟩ := walk_snoc.1 hw
      have ha : a.length = n := by simpa using hp
      obtain ⟨L, e1, e2, e3⟩ := ih ha w1
      refine ⟨i :: L, by simp [e1], List.nodup_cons.2 ⟨fun hi => ?_, e2⟩, fun k hk => ?_⟩
      · obtain ⟨hd, q, hq, w2⟩ := e3 i hi
        obtain ⟨z, hz, hzd⟩ := isDir_iff.1 hd
        have := h.path_uniq w1 w2 hz hzd
        rw [this] at ha; omega
      · rcases List.mem_cons.1 hk with rfl | hk
        · exact ⟨(step_iff.1 s1).1, a, by omega, w1⟩
        · obtain ⟨hd, q, hq, w2⟩ := e3 k hk
          exact ⟨hd, q, by omega, w2⟩
theorem Formed.fits60 (h : Formed T) : Fits T 60 1 := fun p j hw => by
  obtain ⟨L, e1, e2, e3⟩ := h.chain _ rfl hw
  have := sub_len e2 fun k hk => (allDirs_mem h.rise).2 (e3 k hk).1
  have := allDirs_len T
  have := h.len
  omega
/-- what the program asks of a tree's directories -/
theorem good_iff (h : Formed T) : Good T ↔ (dirsN T 60 1).length = (allDirs T).length ∧ deepF T 60 1 ≤ 8 := by
  have hsub : ∀ j ∈ dirsN T 60 1, j ∈ allDirs T := fun j hj => (allDirs_mem h.rise).2 (dirsN_mem h.riseAll hj).choose_spec.2
  constructor
  · intro g
    refine ⟨Nat.le_antisymm (sub_len (h.dirs_nodup 60) hsub) (sub_len (allDirs_nodup h.rise) fun j hj => ?_), ?_⟩
    · have hd := (allDirs_mem h.rise).1 hj
      obtain ⟨x, hx, hxd⟩ := isDir_iff.1 hd
      obtain ⟨p, hp⟩ := g.reach x (at_mem hx).1 hxd
      rw [(at_mem hx).2] at hp
      exact dirsN_of h.riseAll h.fits60 hp hd
    · obtain ⟨l, j, h1, h2⟩ := deep_wit h.riseAll 60 1
      have := g.short l j h1
      omega
  · rintro ⟨h1, h2⟩
    refine ⟨h, fun x hx hd => ?_, fun l k hw => Nat.le_trans (deep_ge h.fits60 hw) h2⟩
    have := sub_eq (h.dirs_nodup 60) hsub (by omega) x.num ((allDirs_mem h.rise).2 (by rw [(isDir_at (h.rise.at hx)).1]; exact hd))
    obtain ⟨p, hp, _⟩ := dirsN_mem h.riseAll this
    exact ⟨p, hp⟩
end
end Go.Proofs.YtfokdmijkniomaaGreatDoor

namespace Go.Proofs.YtfokdmijkniomaaGreatDoor
open Go.RowKit Go

def upc (c : Int → Nat) (k : Int) : Int → Nat := fun j => if j = k then c j + 1 else c j
section
variable {T : List Nod}
theorem sum_perm {α : Type} {f : α → Nat} {l m : List α} (h : l.Perm m) : sumK f l = sumK f m := by
  induction h with
  | nil => rfl
  | cons x _ ih => rw [sum_cons, sum_cons, ih]
  | swap x y l => rw [sum_cons, sum_cons, sum_cons, sum_cons]; omega
  | trans _ _ i1 i2 => exact i1.trans i2
/-! ### One that goes through nodes -/
theorem upc_is (c : Int → Nat) (e : Ent) (k : Int) : upc c e.num k = c k + oneIf e k := by
  unfold upc oneIf
  by_cases h : k = e.num
  · simp [h]
  · rw [if_neg h, if_neg (fun x => h x.symm)]; rfl
/-- what the program asks of names and links -/
theorem formed_of_named (hr : RiseN T) (hl : T.length ≤ 60) (hn : ∀ k x, nodeAt T k = some x → (1 ≤ k → k ≤ 65535 → NodeOk x) ∧ 1 ≤ k ∧ RiseE x.names ∧ (∀ e ∈ x.names, EntOk e) ∧ (x.dir = false → x.names = []))
    (h1 : ∃ r, nodeAt T 1 = some r ∧ r.dir = true) (hd : ∀ k x, nodeAt T k = some x → x.dir = true → x.links = 1)
    (hc : ∀ k, (nodeAt T k).map Nod.links = if k = 1 then some (1 + (cnt T 1 : Int)) else if cnt T k = 0 then none else some (cnt T k : Int)) : Formed T := by
  obtain ⟨r, hr1, hrd⟩ := h1
  have hroot : cnt T 1 = 0 ∧ r.links = 1 := by
    have := hc 1
    rw [hr1, if_pos rfl] at this
    have e1 : r.links = 1 + (cnt T 1 : Int) := Option.some.inj this
    have e2 := hd 1 r hr1 hrd
    omega
  have hle : ∀ k x, nodeAt T k = some x → k ≤ 65535 := fun k x hx => by
    by_cases h : k = 1
    · omega
    · have := hc k
      rw [hx, if_neg h] at this
      split at this
      · cases this
      · rename_i hp
        obtain ⟨y, hy, h2⟩ := sum_pos (Nat.pos_of_ne_zero hp)
        obtain ⟨e, he, h3⟩ := c_ex h2
        have := ((hn _ y (hr.at hy)).2.2.2.1 e he).2.2
        omega
  refine Formed.of hr hl (fun k x hx => (hn k x hx).1 (hn k x hx).2.1 (hle k x hx)) ⟨r, hr1, hrd, hroot.2⟩ (fun k t j hs => ?_) (fun k x hx hk => ?_)
  · obtain ⟨x, hx, _, hl⟩ := step_ok.1 hs
    have p1 := c_pos (look_mem hl)
    have p2 : cE x.names j ≤ cnt T j := sum_mem (f := fun x => cE x.names j) (at_mem hx).1
    simp only at p1
    have hj : j ≠ 1 := fun e => by rw [e] at p2 p1; omega
    have := hc j
    rw [if_neg hj, if_neg (by omega)] at this
    obtain ⟨y, hy, _⟩ := Option.map_eq_some_iff.1 this
    exact ⟨hj, y, hy⟩
  · have := hc k
    rw [hx, if_neg hk] at this
    split at this
    · cases this
    · have e1 : x.links = (cnt T k : Int) := Option.some.inj this
      exact ⟨e1, by omega, hd k x hx⟩
theorem Formed.named (h : Formed T) (k : Int) : (nodeAt T k).map Nod.links = if k = 1 then some (1 + (cnt T 1 : Int)) else if cnt T k = 0 then none else some (cnt T k : Int) := by
  by_cases e : k = 1
  · obtain ⟨r, hr, _, h3⟩ := h.root
    rw [e, if_pos rfl, hr, h.cnt_root]
    simp [h3]
  · rw [if_neg e]
    cases hx : nodeAt T k with
    | none => rw [h.cnt_none hx]; rfl
    | some x =>
      have := h.links x (at_mem hx).1 (by rw [(at_mem hx).2]; exact e)
      rw [(at_mem hx).2] at this
      rw [if_neg (by omega)]
      simp [this.1]
end
end Go.Proofs.YtfokdmijkniomaaGreatDoor

