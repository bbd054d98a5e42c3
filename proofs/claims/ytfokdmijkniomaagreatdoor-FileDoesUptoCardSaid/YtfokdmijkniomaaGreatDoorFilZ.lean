/-
  A tree: named, what is asked of its names and links.
-/
import Derived.Test.YtfokdmijkniomaaGreatDoorFilY
import Derived.Test.YtfokdmijkniomaaGreatDoorFilV
namespace Go.Proofs.YtfokdmijkniomaaGreatDoor
open Go.RowKit Go Go.Maps

/-- nodes that were taken in -/
structure RawT (T : List Nod) : Prop where
  len : T.length ≤ 60
  ok : ∀ x ∈ T, 1 ≤ x.num ∧ IntOk x.num ∧ IntOk x.links ∧ RiseE x.names ∧ (∀ e ∈ x.names, EntOk e) ∧ x.names.length ≤ 60 ∧ (x.dir = false → x.names = [] ∧ x.data.size ≤ 16384) ∧ (x.dir = true → x.data = ⟨#[]⟩)
def tellC (c : Int → Nat) : Int → Option Int := fun k => if k = 1 then some (1 + (c k : Int)) else if c k = 0 then none else some (c k : Int)
def doneF (T : List Nod) (left : Lit → Bool) : Int → Option Int := fun k => (nodeAt T k).bind fun x => if left (litI k) = true then none else some x.links
theorem tell_none : tellC (fun _ => 0) = updI (fun _ => none) 1 (some 1) := by
  funext k
  unfold tellC updI
  by_cases e : k = 1 <;> simp [e]
theorem tell_up (c : Int → Nat) (k : Int) : updI (tellC c) k (some ((tellC c k).getD 0 + 1)) = tellC (upc c k) := by
  funext j
  unfold updI tellC upc
  by_cases e : j = k
  · subst e
    by_cases e1 : j = 1
    · simp [e1]; omega
    · by_cases e2 : c j = 0
      · simp [e1, e2]
      · simp [e1, e2]
  · simp [e]
theorem tell_le (c : Int → Nat) (k : Int) (n : Nat) (h : c k ≤ n) : 0 ≤ (tellC c k).getD 0 ∧ (tellC c k).getD 0 ≤ n + 1 := by
  unfold tellC
  by_cases e1 : k = 1
  · simp [e1] at h ⊢; omega
  · by_cases e2 : c k = 0
    · simp [e1, e2]; omega
    · simp [e1, e2]; omega
theorem done_none {T : List Nod} {left : Lit → Bool} (h : ∀ kl, left kl = false) (k : Int) : doneF T left k = (nodeAt T k).map Nod.links := by
  unfold doneF
  cases nodeAt T k with
  | none => rfl
  | some x => simp [h]
theorem done_all {T : List Nod} {left : Lit → Bool} (h : ∀ k x, nodeAt T k = some x → left (litI k) = true) : doneF T left = fun _ => none := by
  funext k
  unfold doneF
  cases e : nodeAt T k with
  | none => rfl
  | some x => simp [h k x e]
theorem done_next {T : List Nod} {left : Lit → Bool} {x : Nod} (hx : nodeAt T x.num = some x) : updI (doneF T left) x.num (some x.links) = doneF T (fun z => left z && !z.sameKey (litI x.num)) := by
  funext k
  unfold updI doneF
  by_cases e : k = x.num
  · subst e
    simp [hx, litI_self]
  · simp [e, litI_other e]
theorem cE_le (l : List Ent) (k : Int) : cE l k ≤ l.length := by
  have := sum_bound (f := fun e => oneIf e k) (n := 1) (l := l) (fun e _ => by unfold oneIf; split <;> omega)
  unfold cE
  omega
theorem RawT.cnt_le {T : List Nod} (h : RawT T) (k : Int) : cnt T k ≤ 3600 := by
  have := sum_le (f := fun x => cE x.names k) (n := 60) (l := T) (fun x hx => Nat.le_trans (cE_le _ _) (h.ok x hx).2.2.2.2.2.1)
  have := h.len
  unfold cnt
  omega
theorem RawT.names_le {T : List Nod} (h : RawT T) : sumK (fun x => x.names.length) T ≤ 3600 := by
  have := sum_le (f := fun x : Nod => x.names.length) (n := 60) (l := T) (fun x hx => (h.ok x hx).2.2.2.2.2.1)
  have := h.len
  omega
theorem RawT.formed {T : List Nod} (h : RawT T) (hr : RiseN T) (h1 : ∃ r, nodeAt T 1 = some r ∧ r.dir = true) (hd : ∀ k x, nodeAt T k = some x → x.dir = true → x.links = 1)
    (hc : ∀ k, (nodeAt T k).map Nod.links = tellC (cnt T) k) : Formed T := by
  refine formed_of_named hr h.len (fun k x hx => ?_) h1 hd (fun k => ?_)
  · obtain ⟨a1, a2, a3, a4, a5, a6, a7, a8⟩ := h.ok x (at_mem hx).1
    have e := (at_mem hx).2
    subst e
    exact ⟨fun b1 b2 => ⟨⟨b1, b2⟩, a7, fun hd => ⟨a8 hd, a4, a6, fun e he => (a5 e he).1⟩⟩, a1, a4, a5, fun hd => (a7 hd).1⟩
  · rw [hc]; unfold tellC
    split
    · rename_i e; rw [e]
    · rfl
theorem Formed.tells {T : List Nod} (h : Formed T) (k : Int) : tellC (cnt T) k = (nodeAt T k).map Nod.links := by
  rw [h.named k]; unfold tellC
  split
  · rename_i e; rw [e]
  · rfl
theorem Formed.links1 {T : List Nod} (h : Formed T) {k : Int} {x : Nod} (hx : nodeAt T k = some x) (hd : x.dir = true) : x.links = 1 := by
  by_cases e : x.num = 1
  · obtain ⟨r, hr, _, h3⟩ := h.root
    have e2 := (at_mem hx).2
    rw [← e2, e, hr] at hx
    cases hx; exact h3
  · exact (h.links x (at_mem hx).1 e).2.2 hd
section
variable {w w' w2 : World} {c m : Nat} {P : Int → Nat} {G : Int → Option Nat} {T : List Nod} {D : DataW Unit}
/-- what stands behind a number of nodes -/
structure NamedAt (w w' : World) (m r b1 b2 : Nat) (T : List Nod) (D : DataW Unit) (left : Lit → Bool) (cnt' : Nat) (f : Int → Nat) (N M : Nat) : Prop where
  rng : w'.ranges Tryz.prog 3 ptrElem m r T.length D left cnt'
  nums : ∀ k, f k + sumK (fun x => cE x.names k) (leftN left T) = cnt T k
  names : CntAt w' b1 N (tellC f)
  room : N + sumK (fun x => x.names.length) (leftN left T) ≤ 3601
  links : CntAt w' b2 M (doneF T left)
  room2 : M + (leftN left T).length ≤ 60
  ones : ∀ x ∈ T, left (litI x.num) = false → x.dir = true → x.links = 1
  below : Below w.heap.size w w'
/-- what stands behind a number of names of one node -/
structure NamingAt (w w' : World) (m r b1 b2 g r' n : Nat) (T : List Nod) (D Dn : DataW Unit) (left : Lit → Bool) (cnt' : Nat) (l : List Ent) (left2 : Lit → Bool) (cnt2 : Nat) (f fEnd : Int → Nat) (N NEnd M : Nat) : Prop where
  rng : w'.ranges Tryz.prog 3 ptrElem m r T.length D left cnt'
  rng2 : w'.ranges Tryz.prog 9 intElem g r' n Dn left2 cnt2
  nums : ∀ k, f k + cE (leftL left2 l) k = fEnd k
  names : CntAt w' b1 N (tellC f)
  room : N + (leftL left2 l).length ≤ NEnd
  links : CntAt w' b2 M (doneF T left)
  below : Below w.heap.size w w'
theorem w64_up {v : Int} (h1 : 0 ≤ v) (h2 : v ≤ 100000) : RowKit.wrap64 (v + 1) = v + 1 := by
  simp [RowKit.wrap64]; omega
set_option maxRecDepth 100000 in
set_option maxHeartbeats 8000000 in
theorem named_any (h : TreeAt c m P G T D w) (hT : RawT T) :
    Calls Tryz.prog 79 #[.pointer (some ⟨c, 0, none⟩)] w fun r w' => Asks (Formed T) r ∧ Below w.heap.size w w' := by
  have c0 := TObj.c0 h.obj
  cases hr : nodeAt T 1 with
  | none =>
    have hlo := h.lookup_none (k := 1) ⟨by decide, by decide⟩ hr
    have HN := Lib.hid (show ¬ Formed T from fun hF => by obtain ⟨r, hr1, _⟩ := hF.root; rw [hr] at hr1; cases hr1)
    clear h hT hr
    go_enter Tryz.func79, Tryz.ntmps79
    go_wp2
    go_ret
    exact ⟨.no HN.out rfl, Below.refl _ _⟩
  | some r =>
    have hlo := h.lookup_some (k := 1) ⟨by decide, by decide⟩ hr
    have d1 := NObj.c1 (h.node 1 r hr).obj
    cases hd : r.dir with
    | false =>
      have HN := Lib.hid (show ¬ Formed T from fun hF => by obtain ⟨r', hr1, hd1, _⟩ := hF.root; rw [hr] at hr1; cases hr1; rw [hd] at hd1; cases hd1)
      rw [hd] at d1
      clear h hT hr
      go_enter Tryz.func79, Tryz.ntmps79
      go_wp2
      go_ret
      exact ⟨.no HN.out rfl, Below.refl _ _⟩
    | true =>
      rw [hd] at d1
      have HROOT := Lib.hid (show ∃ r, nodeAt T 1 = some r ∧ r.dir = true from ⟨r, hr, hd⟩)
      obtain ⟨w1, hw1⟩ : ∃ w1, w.alloc (.map #[] 0) = w1 := ⟨_, rfl⟩
      have hB1 : Below w.heap.size w w1 := by rw [← hw1]; exact (Below.refl _ w).alloc (Nat.le_refl _) _
      have hs1 : w1.heap.size = w.heap.size + 1 := by rw [← hw1]; exact Array.size_push _
      have k1 : CntAt w1 w.heap.size 0 (fun _ => none) := by rw [← hw1]; exact .new w
      obtain ⟨w2, hrun, k2, ht2⟩ := k1.put (by omega) (k := 1) (v := 1) ⟨by decide, by decide⟩ ⟨by decide, by decide⟩
      rw [← tell_none] at k2
      obtain ⟨w3, hw3⟩ : ∃ w3, w2.alloc (.map #[] 0) = w3 := ⟨_, rfl⟩
      have hB3 : Below w2.heap.size w2 w3 := by rw [← hw3]; exact (Below.refl _ w2).alloc (Nat.le_refl _) _
      have hs3 : w3.heap.size = w2.heap.size + 1 := by rw [← hw3]; exact Array.size_push _
      have k3 : CntAt w3 w2.heap.size 0 (fun _ => none) := by rw [← hw3]; exact .new w2
      have n3 : CntAt w3 w.heap.size 1 (tellC (fun _ => 0)) := k2.stay (Stir.of_below (F := fun _ => False) hB3) (fun f => f)
      have hB : Below w.heap.size w w3 := (((Stir.of_below (F := fun _ => False) hB1).turned (.inr (Nat.le_refl _)) ht2).and_below hB3).below (fun _ f => f.elim) (Nat.le_refl _)
      have h3 := h.later hB
      have e0 := TObj.c0 h3.obj
      have hmap := h3.map
      have hs2 := ht2.grown.size
      have HH := Lib.hid h
      have HT := Lib.hid hT
      have HB := Lib.hid hB
      have HK3 := Lib.hid k3
      have HN3 := Lib.hid n3
      have HSZ := Lib.hid (show w.heap.size < w2.heap.size ∧ w2.heap.size < w3.heap.size by omega)
      have HML := Lib.hid (h.lt (.inr (.inl rfl)))
      have hmm := @run_makeMap Tryz.prog
      clear h hT hr hd hB1 hs1 k1 k2 ht2 hB3 hs3 k3 n3 hB h3 hs2
      go_enter Tryz.func79, Tryz.ntmps79
      go_wp2_with (at_range; refine wpList_range_own _ rfl _ 51 rfl 3 55 lawI Tryz.underlying51 _ m T.length D rfl hmap ?_; intro w0 hrg0 hg0 hs0)
      try go_frame
      have hB0 : Below w3.heap.size w3 w0 := ⟨hg0.os, hg0.tape, hg0.output, hg0.size, fun k hk => hg0.block k hk (by simp)⟩
      have HNA := Lib.hid (show NamedAt w w0 m w3.heap.size w.heap.size w2.heap.size T D (Maps.has D) (Maps.size D) (fun _ => 0) 1 0 from
        ⟨hrg0, fun k => (by rw [leftN_all HH.out]; simp [cnt]), HN3.out.stay (Stir.of_below (F := fun _ => False) hB0) (fun f => f), (by rw [leftN_all HH.out]; have := HT.out.names_le; omega),
          (by rw [done_all (fun k x hx => by rw [HH.out.has, hx]; rfl)]; exact HK3.out.stay (Stir.of_below (F := fun _ => False) hB0) (fun f => f)), (by rw [leftN_all HH.out]; have := HT.out.len; omega),
          (fun x hx hl => by rw [HH.out.has, HH.out.rise.at hx] at hl; cases hl), HB.out.trans (hB0.mono HB.out.size)⟩)
      clear hrg0 hg0 hs0 hB0 hmap e0 c0 d1 hlo hrun hmm
      go_loopw [32] (fun _ wr => ∃ left cnt1 f N M, Hid (NamedAt w wr m w3.heap.size w.heap.size w2.heap.size T D left cnt1 f N M)) (fun _ wr => wr.rangeLeft m w3.heap.size)
      case atStart => exact ⟨_, _, _, _, _, HNA⟩
      case round =>
        clear HNA
        obtain ⟨left, cnt1, f, N, M, HA⟩ := hrel
        have hrg := HA.out.rng
        go_wp2_with (at_next; refine wpList_next_nodes _ rfl _ rfl m w3.heap.size T.length D P T HH.out.look _ _ rfl hrg ?_ ?_)
        · intro _ hl0
          have CE := numsEq_any HA.out.names HA.out.links
          have HL0 := Lib.hid hl0
          clear hl0 hrg
          go_wp2_with fail
          refine CE.mono ?_
          rintro e w4 ⟨⟨b, rfl, hb⟩, hB4⟩
          have HB4 := Lib.hid hB4
          have HBB := Lib.hid hb
          clear CE hB4 hb
          go_wp2
          go_ret
          refine ⟨⟨b, rfl, HBB.out.trans ?_⟩, HA.out.below.trans (HB4.out.mono HA.out.below.size)⟩
          have hf : f = cnt T := funext fun k => by
            have := HA.out.nums k
            rw [leftN_none HL0.out] at this
            simpa [sumK] using this
          rw [hf]
          constructor
          · intro he
            exact HT.out.formed HH.out.rise HROOT.out (fun k x hx hd => HA.out.ones x (at_mem hx).1 (HL0.out _) hd) fun k => by rw [he, done_none HL0.out]
          · intro hF k
            rw [hF.tells, done_none HL0.out]
        · intro x w4 cnt2 hx hlf hrg1 hlt hg1 hsz1 hen
          have hsz := HSZ.out
          have hml := HML.out
          have hB4 : Below w.heap.size w w4 := ⟨hg1.os.trans HA.out.below.os, hg1.tape.trans HA.out.below.tape, hg1.output.trans HA.out.below.output, by rw [hsz1]; exact HA.out.below.size, fun i hi => (hg1.block i (Nat.lt_of_lt_of_le hi HA.out.below.size) (by simp; omega)).trans (HA.out.below.block i hi)⟩
          have S4 : Stir (fun i => i = w3.heap.size) wr w4 := ⟨hg1.os, hg1.tape, hg1.output, Nat.le_of_eq hsz1.symm, fun i hi hn => hg1.block i hi (by simp; exact hn)⟩
          have nm4 := HA.out.names.stay S4 (by omega)
          have lk4 := HA.out.links.stay S4 (by omega)
          have hok := HT.out.ok x (at_mem hx).1
          have hperm := leftN_next HH.out.rise (at_mem hx).1 hlf
          have hM : M < 100000 := by have := HA.out.room2; omega
          have sdr : Stir (fun _ => False) w4 w4.drew := (Stir.refl _ w4).drew
          obtain ⟨w5, hup, k5, ht5⟩ := (lk4.stay (w' := w4.drew) sdr (fun f => f)).put hM hok.2.1 hok.2.2.1
          rw [done_next hx] at k5
          have S5 : Stir (· = w2.heap.size) w4 w5 := (sdr.weaken (G := (· = w2.heap.size)) (fun _ f => f.elim)).turned (.inl rfl) ht5
          have rg5 : w5.ranges Tryz.prog 3 ptrElem m w3.heap.size T.length D (fun z => left z && !z.sameKey (litI x.num)) cnt2 := (hrg1.kept (w' := w4.drew) (row := none) ⟨sdr.os, sdr.tape, sdr.output, sdr.size, fun k hk _ => sdr.block k hk (fun f => f)⟩ (by simp) (by simp)).kept ht5.grown (by simp; omega) (by simp; omega)
          have hB5 : Below w.heap.size w w5 := ((Stir.of_below (F := fun _ => False) hB4).trans S5 (fun i hi => .inr (by omega))).below (fun _ f => f.elim) (Nat.le_refl _)
          have nm5 := nm4.stay S5 (by omega)
          have h4 := HH.out.later hB4
          have h5 := HH.out.later hB5
          have o4 := h4.node _ x hx
          have o5 := h5.node _ x hx
          have a0 := NObj.c0 o4.obj
          have a2 := NObj.c2 o4.obj
          have b1 := NObj.c1 o5.obj
          have b2 := NObj.c2 o5.obj
          have b4 := NObj.c4 o5.obj
          have HRG := Lib.hid rg5
          have HNM := Lib.hid nm5
          have HLK := Lib.hid k5
          have HB5 := Lib.hid hB5
          have HO5 := Lib.hid o5
          have HOK := Lib.hid hok
          have HLT := Lib.hid hlt
          have HLE := Lib.hid hrg.left_eq
          have HPERM := Lib.hid hperm
          have HX := Lib.hid hx
          clear hrg hrg1 hlt hg1 hsz1 hB4 S4 nm4 lk4 hok hperm sdr k5 ht5 S5 rg5 hB5 nm5 h4 h5 o4 o5 hsz hml hx hM hlf
          go_wp2
          go_region
          cases hd : x.dir with
          | true =>
            rw [hd] at b1
            by_cases hl1 : x.links = 1
            · have hz1 : (x.links == 1) = true := by simp [hl1]
              have hz2 : (x.links != 1) = false := by simp [hl1]
              have hnm := HO5.out.names
              rw [hd] at hnm
              obtain ⟨g, hg⟩ := hnm.isSome
              rw [hg] at b4 hnm
              obtain ⟨_, Dn, hown, hszn, hrd⟩ := hnm
              have HRD := Lib.hid hrd
              have HGL := Lib.hid (show g < w.heap.size from HH.out.lt (.inr (.inr ⟨x.num, x, HX.out, .inr hg⟩)))
              have HL1 := Lib.hid hl1
              clear hrd hszn hl1 hg
              go_wp2_with (at_range; refine wpList_range_own _ rfl _ 56 rfl 9 3 lawS Tryz.underlying56 _ g x.names.length Dn rfl hown ?_; intro w6 hrg6 hg6 hs6)
              try go_frame
              have S6 : Stir (fun _ => False) w5 w6 := ⟨hg6.os, hg6.tape, hg6.output, hg6.size, fun k hk _ => hg6.block k hk (by simp)⟩
              have HIN := Lib.hid (show NamingAt w w6 m w3.heap.size w.heap.size w2.heap.size g w5.heap.size x.names.length T D Dn (fun z => left z && !z.sameKey (litI x.num)) cnt2 x.names (Maps.has Dn) (Maps.size Dn) f (fun k => f k + cE x.names k) N (N + x.names.length) (M + 1) from
                ⟨HRG.out.kept hg6 (by simp) (by simp), hrg6, fun k => by rw [leftL_all HRD.out HOK.out.2.2.2.1], HNM.out.stay S6 (fun f => f), by rw [leftL_all HRD.out HOK.out.2.2.2.1]; exact Nat.le_refl _, HLK.out.stay S6 (fun f => f),
                  ((Stir.of_below (F := fun _ => False) HB5.out).trans S6 (fun _ f => f.elim)).below (fun _ f => f.elim) (Nat.le_refl _)⟩)
              have HW5 := Lib.hid (show w3.heap.size < w5.heap.size from HRG.out.lt)
              have HNUM := Lib.hid (fun k => show f k + cE x.names k + sumK (fun x => cE x.names k) (leftN (fun z => left z && !z.sameKey (litI x.num)) T) = cnt T k by
                have := HA.out.nums k
                rw [sum_perm HPERM.out, sum_cons] at this
                omega)
              have HROOM := Lib.hid (show N + x.names.length + sumK (fun x => x.names.length) (leftN (fun z => left z && !z.sameKey (litI x.num)) T) ≤ 3601 by
                have := HA.out.room
                rw [sum_perm HPERM.out, sum_cons] at this
                omega)
              clear hrg6 hg6 hs6 S6 hown b4 b1 b2 a0 a2 hup hen
              go_loopw [61] (fun _ wi => ∃ left2 cnt3 f2 N2, Hid (NamingAt w wi m w3.heap.size w.heap.size w2.heap.size g w5.heap.size x.names.length T D Dn (fun z => left z && !z.sameKey (litI x.num)) cnt2 x.names left2 cnt3 f2 (fun k => f k + cE x.names k) N2 (N + x.names.length) (M + 1))) (fun _ wi => wi.rangeLeft g w5.heap.size)
              case atStart => exact ⟨_, _, _, _, HIN⟩
              case round =>
                clear HIN
                obtain ⟨left2, cnt3, f2, N2, HI⟩ := hrel
                have hrg := HI.out.rng2
                go_wp2_with (at_next; refine wpList_next_names _ rfl _ rfl g w5.heap.size x.names.length Dn x.names HRD.out _ _ rfl hrg ?_ ?_)
                · intro _ hl0
                  have HE := Lib.hid (show ∀ k, f2 k = f k + cE x.names k from fun k => by
                    have := HI.out.nums k
                    rw [leftL_none hl0] at this
                    simpa [cE, sumK] using this)
                  have HN2 := Lib.hid (show N2 ≤ N + x.names.length from by have := HI.out.room; omega)
                  clear hl0 hrg
                  go_wp2
                  go_roundw
                  case rel => exact ⟨_, cnt2, f2, N2, M + 1, Lib.hid ⟨HI.out.rng, fun k => by rw [HE.out]; exact HNUM.out k, HI.out.names, by have := HROOM.out; have := HN2.out; omega, HI.out.links, by have := HA.out.room2; rw [HPERM.out.length_eq, List.length_cons] at this; omega,
                    fun y hy hl hyd => by
                      by_cases hlo : left (litI y.num) = true
                      · rw [hlo] at hl
                        have e := litI_inj (WideAt.sameKey_eq (by simpa using hl))
                        have e2 := HH.out.rise.at hy
                        rw [e, HX.out] at e2
                        cases e2
                        exact HL1.out
                      · exact HA.out.ones y hy (by simpa using hlo) hyd, HI.out.below⟩⟩
                  case measure => rw [HI.out.rng.left_eq, HLE.out]; exact HLT.out
                · intro e w7 cnt4 hlk hlf hrg7 hlt hg7 hsz7 hen
                  have hsz := HSZ.out
                  have hml := HML.out
                  have hgl := HGL.out
                  have hw5 := HW5.out
                  have hsI := HI.out.below.size
                  have S7 : Stir (fun i => i = w5.heap.size) wr w7 := ⟨hg7.os, hg7.tape, hg7.output, Nat.le_of_eq hsz7.symm, fun i hi hn => hg7.block i hi (by simp; exact hn)⟩
                  have rg7 := HI.out.rng.kept hg7 (by simp; omega) (by simp; omega)
                  have nm7 := HI.out.names.stay S7 (by omega)
                  have lk7 := HI.out.links.stay S7 (by omega)
                  have hem : e ∈ x.names := look_mem hlk
                  have hperm := leftL_next HOK.out.2.2.2.1 hem hlf
                  have hnu := (HOK.out.2.2.2.2.1 e hem).2
                  have hik : IntOk e.num := ⟨by omega, by omega⟩
                  have hget := nm7.get hik
                  have hfb : f2 e.num ≤ 3600 := by
                    have h1 := HI.out.nums e.num
                    have h2 := HNUM.out e.num
                    have h3 := HT.out.cnt_le e.num
                    omega
                  obtain ⟨hv1, hv2⟩ := tell_le f2 e.num 3600 hfb
                  have hroom := HI.out.room
                  rw [hperm.length_eq, List.length_cons] at hroom
                  have hN2 : N2 < 100000 := by have := HROOM.out; omega
                  have hup := tell_up f2 e.num
                  obtain ⟨v, hv⟩ : ∃ v, (tellC f2 e.num).getD 0 = v := ⟨_, rfl⟩
                  rw [hv] at hget hv1 hv2 hup
                  have hwr := w64_up hv1 (by omega)
                  obtain ⟨w8, hst, k8, ht8⟩ := nm7.put hN2 hik (v := v + 1) ⟨by omega, by omega⟩
                  rw [hup] at k8
                  have S8 : Stir (· = w.heap.size) w7 w8 := (Stir.refl _ w7).turned (.inl rfl) ht8
                  have HX8 := Lib.hid (show NamingAt w w8 m w3.heap.size w.heap.size w2.heap.size g w5.heap.size x.names.length T D Dn (fun z => left z && !z.sameKey (litI x.num)) cnt2 x.names (fun z => left2 z && !z.sameKey (litS e.name)) cnt4 (upc f2 e.num) (fun k => f k + cE x.names k) (N2 + 1) (N + x.names.length) (M + 1) from
                    ⟨rg7.kept ht8.grown (by simp; omega) (by simp; omega), hrg7.kept ht8.grown (by simp; omega) (by simp; omega), fun k => by
                      have := HI.out.nums k
                      unfold cE at this ⊢
                      rw [sum_perm hperm, sum_cons] at this
                      rw [upc_is]
                      omega, k8, by omega, lk7.stay S8 (by omega), (((Stir.of_below (F := fun _ => False) HI.out.below).trans S7 (fun i hi => .inr (by omega))).trans S8 (fun i hi => .inr (by omega))).below (fun _ f => f.elim) (Nat.le_refl _)⟩)
                  have HLQ := Lib.hid (show w8.rangeLeft g w5.heap.size < wr.rangeLeft g w5.heap.size by rw [HX8.out.rng2.left_eq, hrg.left_eq]; exact hlt)
                  clear hrg hrg7 hlt hg7 hsz7 S7 rg7 nm7 lk7 hem hperm hnu hik hfb hv1 hv2 hroom hN2 hup hv k8 ht8 S8 hlk hlf hsz hml hgl hw5 hsI
                  go_wp2
                  go_roundw
                  case rel => exact ⟨_, _, _, _, HX8⟩
                  case measure => exact HLQ.out
            · have hz1 : (x.links == 1) = false := by simp [hl1]
              have hz2 : (x.links != 1) = true := by simp [hl1]
              have HNO := Lib.hid (show ¬ Formed T from fun hF => hl1 (hF.links1 HX.out hd))
              go_wp2
              go_ret
              exact ⟨.no HNO.out rfl, HB5.out⟩
          | false =>
            rw [hd] at b1
            have hnm := HO5.out.names
            rw [hd] at hnm
            have hg : G x.num = none := by
              cases e : G x.num with
              | none => rfl
              | some g => rw [e] at hnm; cases hnm.1
            have hn0 : x.names = [] := (HOK.out.2.2.2.2.2.2.1 hd).1
            rw [hg] at b4
            have hrn := run_range_nilMap (P := Tryz.prog) w5 56 9 3 Tryz.underlying56
            obtain ⟨w6, hw6⟩ : ∃ w6, w5.alloc (.mapIter none 0 #[] 0) = w6 := ⟨_, rfl⟩
            have hnx := fun ty => run_next_nilMap (P := Tryz.prog) w5 ty 0 0 #[]
            rw [hw6] at hrn
            simp only [hw6] at hnx
            have S6 : Stir (fun _ => False) w5 w6 := by rw [← hw6]; exact Stir.of_below ((Below.refl _ w5).alloc (Nat.le_refl _) _)
            have HFIN := Lib.hid (show NamedAt w w6 m w3.heap.size w.heap.size w2.heap.size T D (fun z => left z && !z.sameKey (litI x.num)) cnt2 f N (M + 1) from
              ⟨HRG.out.kept (row := none) ⟨S6.os, S6.tape, S6.output, S6.size, fun k hk _ => S6.block k hk (fun f => f)⟩ (by simp) (by simp), fun k => by
                have := HA.out.nums k
                rw [sum_perm HPERM.out, sum_cons, hn0] at this
                simpa [cE, sumK] using this, HNM.out.stay S6 (fun f => f), by
                have := HA.out.room
                rw [sum_perm HPERM.out, sum_cons, hn0] at this
                simpa using this, HLK.out.stay S6 (fun f => f), by have := HA.out.room2; rw [HPERM.out.length_eq, List.length_cons] at this; omega,
                fun y hy hl hyd => by
                  by_cases hlo : left (litI y.num) = true
                  · rw [hlo] at hl
                    have e := litI_inj (WideAt.sameKey_eq (by simpa using hl))
                    have e2 := HH.out.rise.at hy
                    rw [e, HX.out] at e2
                    cases e2
                    rw [hd] at hyd; cases hyd
                  · exact HA.out.ones y hy (by simpa using hlo) hyd,
                ((Stir.of_below (F := fun _ => False) HB5.out).trans S6 (fun _ f => f.elim)).below (fun _ f => f.elim) (Nat.le_refl _)⟩)
            clear hnm hg hn0 S6 hup hen b2 a0 a2
            go_wp2
            go_loopw [61] (fun _ wi => wi = w6) (fun _ _ => 0)
            case atStart => rfl
            case round =>
              obtain rfl := hrel
              go_wp2
              go_roundw
              case rel => exact ⟨_, cnt2, f, N, M + 1, HFIN⟩
              case measure => rw [HFIN.out.rng.left_eq, HLE.out]; exact HLT.out
end
end Go.Proofs.YtfokdmijkniomaaGreatDoor

