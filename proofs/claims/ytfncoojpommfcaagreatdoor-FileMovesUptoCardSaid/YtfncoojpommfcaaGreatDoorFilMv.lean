/-
  Layer 14: what was renamed, renamed back, leaves all as it was: on values, with no program in it.
-/
import Derived.Test.YtfncoojpommfcaaGreatDoorFB
namespace Go.Proofs.YtfncoojpommfcaaGreatDoor
open Go.RowKit Go

section
variable {T : List Nod}
theorem findE_of {l : List ByteArray} {k : Int} {x : Nod} (h : walkE T 1 l = .ok k) (hx : nodeAt T k = some x) : findE T l = .ok x := by
  unfold findE; rw [h]; simp only; rw [hx]
theorem placeE_of {l a : List ByteArray} {s : ByteArray} {k : Int} {x : Nod} (e : l = a ++ [s]) (h : walkE T 1 a = .ok k) (hx : nodeAt T k = some x) (hd : x.dir = true) (hn : lookE x.names s = none) (hl : x.names.length < 60) : placeE T l = .ok (k, s) := by
  subst e
  unfold placeE
  simp only [List.getLast?_append, List.getLast?_singleton, Option.some_or, List.dropLast_concat]
  rw [h]; simp only; rw [hx]; simp only
  rw [if_neg (by simp [hd]), if_neg (by simp [hn]), if_neg (by omega)]
theorem upOf_of {l a : List ByteArray} {s : ByteArray} {k : Int} (e : l = a ++ [s]) (h : walkE T 1 a = .ok k) : upOf T l = k ∧ lastOf l = s := by
  subst e
  unfold upOf lastOf
  simp [h]
theorem rename_back (h : Good T) {s t : ByteArray} {l m : List ByteArray} (hlp : IsPath s l) (hmp : IsPath t m) (hk : (renameV T l m).2 = 0) : renameV (renameV T l m).1 m l = (T, 0) := by
  have hG := h.rename hlp hmp
  revert hk hG
  unfold renameV
  split
  · intro h; cases h
  rename_i hl0
  split
  · rename_i e he; intro h; simp only at h; have := find_err he; omega
  rename_i x hx0
  split
  · intro h; cases h
  rename_i hu
  split
  · rename_i e he; intro h; simp only at h; have := place_err he; omega
  rename_i p r hpl
  split
  · intro h; cases h
  rename_i hdp
  intro _ hG
  simp only at hG ⊢
  have F := h.formed
  obtain ⟨hw, hx⟩ := findE_ok hx0
  obtain ⟨el, hpw, y, hy, hyd, hyn, hyl⟩ := placeE_ok hpl
  obtain ⟨e1, e2, e3⟩ := up_ok hl0 hw
  obtain ⟨d, hd⟩ : ∃ d, upOf T l = d := ⟨_, rfl⟩
  obtain ⟨was, hwas⟩ : ∃ was, lastOf l = was := ⟨_, rfl⟩
  rw [hd] at e2 e3 hG ⊢
  rw [hwas] at e1 e3 hG ⊢
  obtain ⟨xd, hxd, dd, ld⟩ := step_ok.1 e3
  have hrd := F.riseE (at_mem hxd).1
  have hry := F.riseE (at_mem hy).1
  have hll := congrArg List.length e1
  rw [List.length_append, List.length_singleton] at hll
  have hml := congrArg List.length el
  rw [List.length_append, List.length_singleton] at hml
  have hnp : ¬ (l.dropLast ++ [was]) <+: m.dropLast := by
    rw [← e1]
    intro c
    refine hu ⟨?_, ?_⟩
    · rw [el]; exact prefix_snoc c
    · rintro rfl
      have h1 := c.length_le
      omega
  have hne : ¬ (p = d ∧ r = was) := by
    rintro ⟨rfl, rfl⟩
    rw [hy] at hxd; cases hxd
    rw [hyn] at ld; cases ld
  have hdx : d ≠ x.num := by
    rintro rfl
    have := F.path_uniq e2 hw hxd dd
    have := congrArg List.length this
    omega
  have hpx : p ≠ x.num := by
    rintro rfl
    have := F.path_uniq hpw hw hy hyd
    exact hnp (by rw [← e1, ← this]; exact List.prefix_refl _)
  obtain ⟨N, hN⟩ : ∃ N, nameDel T d was = N := ⟨_, rfl⟩
  have st1 : ∀ k t j, stepE N k t = .ok j ↔ stepE T k t = .ok j ∧ ¬ (k = d ∧ t = was) := by rw [← hN]; exact step_del hxd
  have at1 : ∀ j, nodeAt N j = if d = j then some { xd with names := delE was xd.names } else nodeAt T j := by rw [← hN]; exact at_nameDel hxd
  have rN : RiseN N := by rw [← hN]; exact rise_nameDel F.rise _ _
  obtain ⟨y1, hy1, y1d, y1n, y1l, y1e⟩ : ∃ y1, nodeAt N p = some y1 ∧ y1.dir = true ∧ lookE y1.names r = none ∧ RiseE y1.names ∧ y1 = (if d = p then { xd with names := delE was xd.names } else y) := by
    rw [at1]
    by_cases e : d = p
    · subst e
      rw [hy] at hxd; cases hxd
      refine ⟨_, if_pos rfl, dd, ?_, hrd.del _, (if_pos rfl).symm⟩
      simp only [look_del]
      split
      · rfl
      · exact hyn
    · exact ⟨y, by rw [if_neg e, hy], hyd, hyn, hry, by rw [if_neg e]⟩
  rw [hN] at hG ⊢
  obtain ⟨U, hU⟩ : ∃ U, namePut N p r x.num = U := ⟨_, rfl⟩
  have st2 : ∀ k t j, stepE U k t = .ok j ↔ (k = p ∧ t = r ∧ j = x.num) ∨ stepE N k t = .ok j := by rw [← hU]; exact step_put hy1 y1d y1n
  have at2 : ∀ j, nodeAt U j = if p = j then some { y1 with names := insE r x.num y1.names } else nodeAt N j := by rw [← hU]; exact at_namePut hy1
  have rU : RiseN U := by rw [← hU]; exact rise_namePut rN _ _ _
  rw [hU] at hG ⊢
  have keep : ∀ k t j, stepE T k t = .ok j → ¬ (k = d ∧ t = was) → stepE U k t = .ok j := fun k t j h1 h2 => (st2 k t j).2 (.inr ((st1 k t j).2 ⟨h1, h2⟩))
  have wm : walkE U 1 m.dropLast = .ok p := F.avoid e2 hxd dd keep _ rfl hpw hnp
  have wl : walkE U 1 l.dropLast = .ok d := F.avoid e2 hxd dd keep _ rfl e2 (fun c => by have := c.length_le; simp at this; omega)
  have wx : walkE U 1 m = .ok x.num := by rw [el]; exact walk_snoc.2 ⟨p, wm, (st2 _ _ _).2 (.inl ⟨rfl, rfl, rfl⟩)⟩
  have hxU : nodeAt U x.num = some x := by rw [at2, if_neg hpx, at1, if_neg hdx, hx]
  have hpU : nodeAt U p = some { y1 with names := insE r x.num y1.names } := by rw [at2, if_pos rfl]
  have hm0 : m ≠ [] := by rintro rfl; simp at hml
  have hu2 : ¬ under m l := by
    rintro ⟨⟨q, hq⟩, _⟩
    rw [← hq] at hw
    obtain ⟨i, w1, _⟩ := walk_parts hw
    rw [el] at w1
    obtain ⟨i', w2, s2⟩ := walk_snoc.1 w1
    rw [hpw] at w2; cases w2
    obtain ⟨z, hz, _, hzl⟩ := step_ok.1 s2
    rw [hy] at hz; cases hz
    rw [hyn] at hzl; cases hzl
  obtain ⟨z, hz, hzd, hzn, hzl⟩ : ∃ z, nodeAt U d = some z ∧ z.dir = true ∧ lookE z.names was = none ∧ z.names.length < 60 := by
    have hlen : (delE was xd.names).length + 1 = xd.names.length := del_len hrd ld
    by_cases e : p = d
    · subst e
      rw [if_pos rfl] at y1e
      subst y1e
      have hxy : xd = y := by rw [hy] at hxd; cases hxd; rfl
      have hn1 : lookE (delE was xd.names) r = none := y1n
      refine ⟨_, hpU, dd, ?_, ?_⟩
      · show lookE (insE r x.num (delE was xd.names)) was = none
        rw [look_ins, if_neg (fun c => hne ⟨rfl, c⟩), look_del, if_pos rfl]
      · show (insE r x.num (delE was xd.names)).length < 60
        rw [ins_len (hrd.del _) hn1, hlen, hxy]; exact hyl
    · refine ⟨{ xd with names := delE was xd.names }, by rw [at2, if_neg e, at1, if_pos rfl], dd, ?_, ?_⟩
      · show lookE (delE was xd.names) was = none
        rw [look_del, if_pos rfl]
      · have := (F.dir xd (at_mem hxd).1 dd).2.2.1
        show (delE was xd.names).length < 60
        omega
  have hpl2 : placeE U l = .ok (d, was) := placeE_of e1 wl hz hzd hzn hzl
  have back : ∀ (n : Nat) (q : List ByteArray) (j : Int), q.length = n → walkE U x.num q = .ok j → walkE T x.num q = .ok j := by
    intro n
    induction n with
    | zero =>
      intro q j hq hw
      obtain rfl := List.eq_nil_of_length_eq_zero hq
      exact hw
    | succ n ih =>
      intro q j hq hwq
      rcases snoc_cases q with rfl | ⟨q, t, rfl⟩
      · exact hwq
      · obtain ⟨i, w1, s1⟩ := walk_snoc.1 hwq
        refine walk_snoc.2 ⟨i, ih q i (by simpa using hq) w1, ?_⟩
        rcases (st2 _ _ _).1 s1 with ⟨rfl, _, _⟩ | s2
        · have := hG.formed.path_uniq (walk_to (b := q) wx ▸ w1 : walkE U 1 (m ++ q) = .ok i) wm hpU y1d
          have := congrArg List.length this
          simp at this
          omega
        · exact ((st1 _ _ _).1 s2).1
  have hdeep : ¬ 8 < l.length + deepF U 8 x.num := by
    obtain ⟨q, j, h1, h2⟩ := deep_wit hG.formed.riseAll 8 x.num
    have := h.short (l ++ q) j (by rw [walk_to hw]; exact back _ q j rfl h1)
    rw [List.length_append, h2] at this
    omega
  rw [if_neg hm0, findE_of wx hxU]
  simp only
  rw [if_neg hu2, hpl2]
  simp only
  rw [if_neg hdeep]
  obtain ⟨u1, u2⟩ := upOf_of el wm
  rw [u1, u2]
  obtain ⟨V, hV⟩ : ∃ V, nameDel U p r = V := ⟨_, rfl⟩
  have rV : RiseN V := by rw [← hV]; exact rise_nameDel rU _ _
  have at3 : ∀ j, nodeAt V j = if p = j then some y1 else nodeAt U j := fun j => by
    rw [← hV, at_nameDel hpU]
    simp only
    rw [del_ins y1l y1n]
  have hVd : nodeAt V d = some { xd with names := delE was xd.names } := by
    rw [at3]
    by_cases e : p = d
    · rw [if_pos e, y1e, if_pos e.symm]
    · rw [if_neg e, at2, if_neg e, at1, if_pos rfl]
  rw [hV]
  refine Prod.ext (RiseN.ext (rise_namePut rV _ _ _) F.rise fun j => ?_) rfl
  rw [at_namePut hVd]
  by_cases ej : d = j
  · subst ej
    rw [if_pos rfl, hxd]
    simp only
    rw [ins_del hrd ld]
  · rw [if_neg ej, at3]
    by_cases ep : p = j
    · subst ep
      rw [if_pos rfl, hy, y1e, if_neg ej]
    · rw [if_neg ep, at2, if_neg ep, at1, if_neg ej]
/-- a command that renames back -/
theorem moves_back (h : Good T) {c : Cmd} (hk : c.kind = 5) (h0 : (doV T c).2 = 0) : doV (doV T c).1 ⟨5, c.dest, c.path, 0, ⟨#[]⟩⟩ = (T, 0) := by
  have hm : MayC c := Classical.byContradiction fun hn => by
    unfold doV at h0
    rw [if_pos hn] at h0
    cases h0
  have hK : MayK c 5 := (mayC_kind hm hk).2
  have e1 : doV T c = renameV T (namesOf c.path) (namesOf c.dest) := by
    unfold doV
    rw [if_neg (fun x => x hm), hk]
    rfl
  have hm2 : MayC ⟨5, c.dest, c.path, 0, ⟨#[]⟩⟩ := ⟨5, by omega, rfl, hK.2.1, hK.1, rfl, rfl⟩
  have e2 : ∀ U, doV U ⟨5, c.dest, c.path, 0, ⟨#[]⟩⟩ = renameV U (namesOf c.dest) (namesOf c.path) := fun U => by
    unfold doV
    rw [if_neg (fun x => x hm2)]
    rfl
  rw [e1] at h0 ⊢
  rw [e2]
  exact rename_back h (namesOf_path hK.1) (namesOf_path hK.2.1) h0
end
end Go.Proofs.YtfncoojpommfcaaGreatDoor

