/-
  A path's names, one more; how often each node is named, name by name: on values. A slice of counts.
-/
import Derived.Test.YtfncoojpommfcaaGreatDoorFilNs
import Derived.Test.YtfncoojpommfcaaGreatDoorFilFr
import Derived.Test.YtfncoojpommfcaaGreatDoorC4
import Derived.OwnWalk
import Derived.Deep.CutRange
namespace Go.Proofs.YtfncoojpommfcaaGreatDoor
open Go.RowKit Go Go.Maps

theorem path_top {n : ByteArray} (h : NameOk n) : IsPath ((⟨#[47]⟩ : ByteArray) ++ n) [n] := by
  refine ⟨by simpa using h, by simp, .inr ⟨by simp, ?_⟩⟩
  simp [joinB, ByteArray.data_append]
theorem path_more {s n : ByteArray} {l : List ByteArray} (h : IsPath s l) (hl : l ≠ []) (h8 : l.length < 8) (hn : NameOk n) : IsPath (s ++ (⟨#[47]⟩ : ByteArray) ++ n) (l ++ [n]) := by
  obtain ⟨h1, h2, h3⟩ := h
  refine ⟨fun p hp => ?_, by simp; omega, .inr ⟨by simp, ?_⟩⟩
  · rcases List.mem_append.1 hp with hp | hp
    · exact h1 p hp
    · rw [List.mem_singleton.1 hp]; exact hn
  · rcases h3 with ⟨e, _⟩ | ⟨_, e⟩
    · exact absurd e hl
    · rw [joinB_snoc hl]
      simp only [ByteArray.data_append, Array.toList_append, e]
      simp
section
variable {T : List Nod}
theorem c_app (a b : List Ent) (k : Int) : cE (a ++ b) k = cE a k + cE b k := sum_append _ _ _
theorem tot_app : ∀ (f : Nat) (a b : List Ent) (k : Int), totE T f (a ++ b) k = totE T f a k + totE T f b k
  | 0, a, b, k => c_app a b k
  | f + 1, a, b, k => by
    rw [totE, totE, totE, c_app, sum_append]; omega
theorem tot_step (f : Nat) {l : List Ent} {i : Nat} (hi : i < l.length) (k : Int) :
    totE T (f + 1) (l.take (i + 1)) k = totE T (f + 1) (l.take i) k + (oneIf l[i] k + (if isDir T l[i].num = true then totE T f (namesAt T l[i].num) k else 0)) := by
  rw [List.take_succ_eq_append_getElem hi, tot_app, tot_cons, tot_nil]; omega
end

/-! ### A slice of counts -/
def intsO (n : Nat) (f : Nat → Int) : Obj := .cells ((List.range n).map (fun i => Value.int .i64 (f i))).toArray 3 (0, 0)
def updN (f : Nat → Int) (j : Nat) (v : Int) : Nat → Int := fun i => if i = j then v else f i
section
variable {w : World} {p i n : Nat} {f : Nat → Int}
theorem intsO.cell (h : w.heap[p]? = some (intsO n f)) (hi : i < n) : w.cell? ⟨p, i, none⟩ = some (.int .i64 (f i)) := by simp [World.cell?, h, intsO, hi]
theorem intsO.fr (h : w.heap[p]? = some (intsO n f)) (i : Nat) : w.frozen? ⟨p, i, none⟩ = false := by simp [World.frozen?, h, intsO]
theorem intsO.set (h : w.heap[p]? = some (intsO n f)) (v : Int) : (w.setCell ⟨p, i, none⟩ (.int .i64 v)).heap[p]? = some (intsO n (updN f i v)) := by
  rw [heap_set h]
  unfold intsO
  simp only [List.setIfInBounds_toArray]
  congr 3
  apply List.ext_getElem
  · simp
  · intro j h1 h2
    simp only [List.getElem_set, List.getElem_map, List.getElem_range, updN]
    by_cases e : i = j
    · subst e; simp
    · rw [if_neg e, if_neg (fun h => e h.symm)]
end

theorem intsO_congr {n : Nat} {f g : Nat → Int} (h : ∀ i, i < n → f i = g i) : intsO n f = intsO n g := by
  unfold intsO
  congr 2
  exact List.map_congr_left fun i hi => by rw [h i (List.mem_range.1 hi)]
theorem meas2 {t n : Nat} (h : t < n) : n - ((t : Int) + 1).toNat < n - t := by omega
theorem meas {t n : Nat} (h : t < n) (hw : RowKit.wrap64 ((t : Int) + 1) = (t : Int) + 1) : n - (RowKit.wrap64 ((t : Int) + 1)).toNat < n - t := by rw [hw]; clear hw; omega
theorem intOf_int (k : IntKind) (z : Int) : intOf (.int k z) = z := rfl
theorem meas_v {t n : Nat} {u v : Value} (h : t < n) (hw : RowKit.wrap64 ((t : Int) + 1) = (t : Int) + 1) (hv : v = .int .i64 (RowKit.wrap64 ((t : Int) + 1))) (hu : u = .int .i64 t) : n - (intOf v).toNat < n - (intOf u).toNat := by
  subst hv; subst hu
  rw [intOf_int, intOf_int, hw]
  clear hw
  omega
theorem meas_u {t n : Nat} {u v : Value} (h : t < n) (hv : v = .int .i64 ((t : Int) + 1)) (hu : u = .int .i64 t) : n - (intOf v).toNat < n - (intOf u).toNat := by
  subst hv; subst hu
  rw [intOf_int, intOf_int]
  omega
theorem num_up {t : Nat} (hw : RowKit.wrap64 ((t : Int) + 1) = (t : Int) + 1) : Value.int .i64 (RowKit.wrap64 ((t : Int) + 1)) = .int .i64 ((t + 1 : Nat) : Int) := by rw [hw]; rfl
/-- a node's number, by its place -/
def numAt (T : List Nod) (i : Nat) : Int := (T.map Nod.num).getD i 0
theorem numAt_is {T : List Nod} {i : Nat} (h : i < (tolds T).length) : (tolds T)[i].num = numAt T i := by
  rw [tolds_get]
  rw [tolds_len] at h
  simp [numAt, told, List.getD, h]
theorem w64_cnt {z : Int} (h0 : 0 ≤ z) (h1 : z ≤ 2000000000000000000) : RowKit.wrap64 (z + 1) = z + 1 := by
  simp [RowKit.wrap64]; omega
section
variable {w w' : World} {c m : Nat} {P : Int → Nat} {G : Int → Option Nat} {T : List Nod} {D : DataW Unit}
theorem TreeAt.not_ints (h : TreeAt c m P G T D w) {p n : Nat} {f : Nat → Int} (hp : w.heap[p]? = some (intsO n f)) : ¬ FootT c m P G T p := by
  rintro (rfl | rfl | ⟨k, x, hx, rfl | hg⟩)
  · rw [h.obj] at hp
    unfold TObj intsO at hp
    injection hp with hp; injection hp with _ hp _
    exact absurd hp (by decide)
  · obtain ⟨es, clock, hb⟩ := owns_obj h.map
    rw [hb] at hp; cases hp
  · rw [(h.node k x hx).obj] at hp
    unfold NObj intsO at hp
    injection hp with hp; injection hp with _ hp _
    exact absurd hp (by decide)
  · have := (h.node k x hx).names
    rw [hg] at this
    obtain ⟨es, clock, hb⟩ := this.block
    rw [hb] at hp; cases hp
theorem path_name {s : ByteArray} {q : List ByteArray} {n : ByteArray} (h : IsPath s q) (h8 : q.length < 8) (hn : NameOk n) : IsPath (if q = [] then (⟨#[47]⟩ : ByteArray) ++ n else s ++ (⟨#[47]⟩ : ByteArray) ++ n) (q ++ [n]) := by
  by_cases e : q = []
  · subst e; rw [if_pos rfl]; exact path_top hn
  · rw [if_neg e]; exact path_more h e h8 hn
theorem root_iff {s : ByteArray} {q : List ByteArray} (h : IsPath s q) : s = ⟨#[47]⟩ ↔ q = [] := by
  constructor
  · rintro rfl; exact h.uniq .root
  · rintro rfl
    rcases h.2.2 with ⟨_, e⟩ | ⟨e, _⟩
    · exact ba_ext e
    · exact absurd rfl e
theorem texts_stay2 {F : Nat → Prop} {w w' : World} {base : Nat} {v : Value} {l : List ByteArray} (h : w.ownsRow base 9 1 v l.length (strVals l)) (s : Stir F w w') (hF : ∀ k, F k → k < base) : TextsAt w' v l := by
  obtain ⟨a, cap, rfl, hc⟩ := texts_of_row h
  refine ⟨a, cap, rfl, fun hne => ?_⟩
  obtain ⟨b, off, rfl, hx⟩ := hc hne
  refine ⟨b, off, rfl, fun j hj => ?_⟩
  have hb : base ≤ b := by
    rcases h.2 with ⟨e, _⟩ | ⟨g, cap', cur, e, h2, _⟩
    · cases e
    · cases e; exact h2
  have hlt : b < w.heap.size := lt_of_cell (hx j hj)
  rw [World.cell?_of_block (w := w) (s.block b hlt (fun f => by have := hF b f; omega))]
  exact hx j hj
set_option maxRecDepth 100000 in
set_option maxHeartbeats 16000000 in
theorem lbelow_any (hGd : Good T) (lv : Value) (p : Nat) : ∀ (f : Nat) {w : World} {s : ByteArray} {q : List ByteArray} {k : Int} {cts : Nat → Int}, TreeAt c m P G T D w → w.heap[p]? = some (intsO T.length cts) → LstAt ndeC 4 w lv (tolds T) →
    (∀ b off n cap, lv = .slice (some ⟨b, off, none⟩) n cap → b ≠ p) → IsPath s q → s.size ≤ 17 * q.length + 1 → walkE T 1 q = .ok k → isDir T k = true → q.length + f = 8 →
    (∀ i, 0 ≤ cts i ∧ cts i + totE T f (namesAt T k) (numAt T i) ≤ 100000) →
    Calls Tryz.prog 28 #[.pointer (some ⟨c, 0, none⟩), .string s, lv, .slice (some ⟨p, 0, none⟩) T.length T.length, .int .i64 q.length] w fun e w' =>
      e = .returned (.bool true) ∧ Stir (· = p) w w' ∧ w'.heap[p]? = some (intsO T.length (fun i => cts i + totE T f (namesAt T k) (numAt T i))) := by
  intro f
  induction f using Nat.strongRecOn with
  | ind f ih =>
  intro w s q k cts h hr hl hlp hp hs hw hd hq hct
  have F := hGd.formed
  obtain ⟨x, hx, hxd⟩ := isDir_iff.1 hd
  have hnx := (isDir_at hx).2
  have hlist : listV T s = .ok (x.names.map Ent.name) := by
    unfold listV
    rw [findR_yes hp, hw]
    simp only
    rw [hx]
    simp only
    rw [if_pos hxd]
  have CL := list_any h F (s := s) (by omega)
  rw [hlist] at CL
  have hpl : p < w.heap.size := lt_of_heap hr
  have hnames : x.names.length ≤ 60 := (F.dir x (at_mem hx).1 hxd).2.2.1
  have hTl : T.length ≤ 60 := F.len
  have HH := Lib.hid h
  have HR := Lib.hid hr
  have HL := Lib.hid hl
  have HLP := Lib.hid hlp
  have HP := Lib.hid hp
  have HS := Lib.hid hs
  have HW := Lib.hid hw
  have HQ := Lib.hid hq
  have HCT := Lib.hid hct
  have HX := Lib.hid hx
  have HXD := Lib.hid hxd
  have HNX := Lib.hid hnx
  have HF := Lib.hid F
  have HIH := Lib.hid ih
  have HPL := Lib.hid hpl
  have HD := Lib.hid hd
  obtain ⟨La, hLa⟩ : ∃ La, x.names.map Ent.name = La := ⟨_, rfl⟩
  have HLa := Lib.hid hLa
  have hLl : La.length = x.names.length := by rw [← hLa, List.length_map]
  have HLl := Lib.hid hLl
  rw [hLa] at CL
  have hql : ¬ (8 : Int) < (q.length : Int) := by omega
  obtain ⟨Q, hQ⟩ : ∃ Q : Nat, q.length = Q := ⟨_, rfl⟩
  rw [hQ] at hql ⊢
  have HQ2 := Lib.hid hQ
  obtain ⟨a, cap, rfl, hla⟩ := hl
  obtain ⟨n, hn⟩ : ∃ n, (tolds T).length = n := ⟨_, rfl⟩
  have hnT : T.length = n := by rw [← hn, tolds_len]
  have HN := Lib.hid hn
  have HNT := Lib.hid hnT
  rw [hn]
  rw [hn] at HL HLP
  rw [hnT] at HR
  have HLA := Lib.hid hla
  rw [hnT]
  clear h hr hlp hp hs hw hq hct hx hxd hnx F ih hpl hd hlist hLa hLl hQ hla hn hTl
  go_enter Tryz.func28, Tryz.ntmps28
  go_wp2_with fail
  refine CL.mono ?_
  rintro e w1 ⟨⟨v, rfl, hrow⟩, hB1⟩
  have HROW := Lib.hid hrow
  have HB1 := Lib.hid hB1
  have hT0 := texts_of_row hrow
  obtain ⟨va, vcap, rfl, -⟩ := hT0
  have HTX := Lib.hid (fun (W : World) (hS : Stir (· = p) w1 W) => texts_stay2 HROW.out hS (fun k e => by have := HPL.out; omega))
  have HM0 := Lib.hid (show Stir (· = p) w w1 from Stir.of_below HB1.out)
  clear CL hrow hB1
  clear hnT
  go_wp2
  go_loopw [13] (fun i wr => ∃ (j : Nat), j ≤ La.length ∧ i = .int .i64 j ∧ Hid (Stir (· = p) w1 wr ∧ wr.heap[p]? = some (intsO n (fun t => cts t + totE T f (x.names.take j) (numAt T t))))) (fun i _ => La.length - (intOf i).toNat)
  case atStart =>
    refine ⟨0, Nat.zero_le _, rfl, Lib.hid ⟨Stir.refl _ _, ?_⟩⟩
    rw [HB1.out.block p HPL.out, HR.out]
    congr 2
    funext t
    rw [List.take_zero, tot_nil]; simp
  case round =>
    obtain ⟨j, hj, rfl, HI⟩ := hrel
    by_cases hlt : j < La.length
    · have hji : (j : Int) < (La.length : Int) := by omega
      have hjx : j < x.names.length := by have := HLl.out; omega
      have HWJ := Lib.hid (show RowKit.wrap64 ((j : Int) + 1) = (j : Int) + 1 from w64_cnt (by omega) (by have := (HF.out.dir x (at_mem HX.out).1 HXD.out).2.2.1; omega))
      obtain ⟨e, he⟩ : ∃ e, x.names[j] = e := ⟨_, rfl⟩
      have hem : e ∈ x.names := by rw [← he]; exact List.getElem_mem _
      have hej : La[j] = e.name := by
        have h1 := HLa.out
        subst h1
        rw [List.getElem_map, he]
      have hstep : stepE T k e.name = .ok e.num := step_iff.2 ⟨HD.out, by rw [HNX.out]; exact (HF.out.riseE (at_mem HX.out).1).look hem⟩
      have hwn : walkE T 1 (q ++ [e.name]) = .ok e.num := walk_snoc.2 ⟨k, HW.out, hstep⟩
      have h9 := hGd.short _ _ hwn
      rw [List.length_append, List.length_singleton] at h9
      obtain ⟨f', rfl⟩ : ∃ f', f = f' + 1 := ⟨f - 1, by have := HQ.out; omega⟩
      have hnm := (HF.out.dir x (at_mem HX.out).1 HXD.out).2.2.2 e hem
      obtain ⟨_, y, hy⟩ := HF.out.kids x (at_mem HX.out).1 e hem
      obtain ⟨a', cap', eA, hcell⟩ := HTX.out wr HI.out.1
      cases eA
      obtain ⟨b', off', rfl, hcell2⟩ := hcell (by intro h; rw [h] at hlt; simp at hlt)
      have hname := hcell2 j hlt
      rw [hej] at hname
      have hs1 : s.size ≤ 137 := by have := HS.out; omega
      have hn1 : e.name.size ≤ 16 := hnm.2.1
      have hrp := root_path HP.out
      have hss : (s ++ (⟨#[47]⟩ : ByteArray)).size ≤ 138 := by
        rw [ByteArray.size_append]; show s.size + 1 ≤ 138; omega
      obtain ⟨PN, hPN⟩ : ∃ PN, (if q = [] then (⟨#[47]⟩ : ByteArray) ++ e.name else s ++ (⟨#[47]⟩ : ByteArray) ++ e.name) = PN := ⟨_, rfl⟩
      have hPP : IsPath PN (q ++ [e.name]) := by rw [← hPN]; exact path_name HP.out (by omega) hnm
      have hPs : PN.size ≤ 17 * (q ++ [e.name]).length + 1 := by
        rw [← hPN, List.length_append, List.length_singleton]
        have := HS.out
        split
        · rw [ByteArray.size_append]; show 1 + e.name.size ≤ _; omega
        · rw [ByteArray.size_append, ByteArray.size_append]; show s.size + 1 + e.name.size ≤ _; omega
      have HPP := Lib.hid hPP
      have HPS := Lib.hid hPs
      have HY := Lib.hid hy
      have HEM := Lib.hid hem
      have HWN := Lib.hid hwn
      have HE := Lib.hid (show x.names.take (j + 1) = x.names.take j ++ [e] by rw [← he]; exact List.take_succ_eq_append_getElem hjx)
      have HPN := Lib.hid hPN
      have HJX := Lib.hid hjx
      have hPs2 : PN.size ≤ 281474976710656 := by have := HPS.out; rw [List.length_append, List.length_singleton] at this; omega
      obtain ⟨bq, hbq⟩ : ∃ bq : Bool, decide (q = []) = bq := ⟨_, rfl⟩
      have HBQ := Lib.hid hbq
      rw [hbq] at hrp
      clear hem hej hstep hwn h9 hnm hy he hPP hPs hjx hbq hPN hcell hcell2
      go_upto_if 47 with fail
      go_cut [14] from 39 to 52 (fun v wx => v = .string PN ∧ wx = wr)
      case first =>
        cases bq with
        | true =>
          have hq0 : q = [] := of_decide_eq_true HBQ.out
          have hP := HPN.out
          rw [if_pos hq0] at hP
          go_wp2
          go_meet
          exact ⟨by first | rfl | rw [hP], rfl⟩
        | false =>
          have hq0 : ¬ q = [] := of_decide_eq_false HBQ.out
          have hP := HPN.out
          rw [if_neg hq0] at hP
          go_wp2
          go_meet
          exact ⟨by first | rfl | rw [hP], rfl⟩
      case rest =>
        obtain ⟨rfl, hwx⟩ := hcut
        have hwx := hwx.symm
        subst hwx
        obtain ⟨wo, hwo⟩ : ∃ wo, wo = wr := ⟨_, rfl⟩
        subst hwo
        have CR := rpath_any PN hPs2 wo
        clear hs1 hn1 hss hname hrp HBQ HPN
        go_wp2_with fail
        refine CR.mono ?_
        rintro r w2 ⟨hE, hB2⟩
        obtain ⟨v2, rfl⟩ : ∃ v2, r = .returned (.tuple #[v2, .int .i64 0]) := by
          rcases hE with ⟨_, v2, _, e2, _⟩ | ⟨hno, _⟩
          · exact ⟨v2, e2⟩
          · exact absurd HPP.out (hno _)
        have S2 := Lib.hid ((HM0.out.trans HI.out.1 (fun i hi => .inl hi)).and_below hB2)
        have S12 := Lib.hid (HI.out.1.and_below hB2)
        have hgv : getV T PN = (told y, 0) := by
          unfold getV
          rw [findR_yes HPP.out, HWN.out]
          simp only
          rw [HY.out]
        have CG := get_any (HH.out.stay S2.out (fun b hb e2 => by subst e2; exact HH.out.not_ints HR.out hb)) HF.out hPs2
        rw [hgv] at CG
        have HI2 := Lib.hid (show w2.heap[p]? = _ from keeps_of hB2 HI.out.2)
        clear CR hE hB2 hgv
        go_wp2_with fail
        refine CG.mono ?_
        rintro r w3 ⟨rfl, hB3⟩
        obtain ⟨w4, hw4⟩ : ∃ w4, w3.alloc (NdeObj zeroN) = w4 := ⟨_, rfl⟩
        have hB4 : Below w3.heap.size w3 w4 := by rw [← hw4]; exact (Below.refl _ w3).alloc (Nat.le_refl _) _
        have z4 : NdeAt zeroN w3.heap.size w4 := by rw [← hw4]; exact .new _ _
        obtain ⟨u1, u2, u3, u4, ⟨e1, e2, e3, e4⟩, ⟨s1, s2, s3, s4⟩, ⟨f1, f2, f3, f4⟩, ha4, hs4⟩ := nde_store (told y) z4
        have hBu : Below w3.heap.size w3 u4 := ((Stir.of_below (F := fun _ => False) hB4).trans hs4 (fun i hi => .inr (by omega))).below (fun _ f => f.elim) (Nat.le_refl _)
        have hp3 : p < w3.heap.size := by have := HPL.out; have := S2.out.size; have := hB3.size; omega
        have HA4 := Lib.hid ha4
        have HP3 := Lib.hid hp3
        have S4 := Lib.hid ((S2.out.and_below hB3).and_below hBu)
        have S14 := Lib.hid ((S12.out.and_below hB3).and_below hBu)
        obtain ⟨bs, hbs⟩ : ∃ bs : Nat → Int, bs = fun t => cts t + totE T (f' + 1) (x.names.take j) (numAt T t) := ⟨_, rfl⟩
        have HBS := Lib.hid hbs
        have HI4 := Lib.hid (show u4.heap[p]? = some (intsO n bs) from by rw [hbs]; exact keeps_of hBu (keeps_of hB3 HI2.out))
        have hyn : y.num = e.num := (at_mem HY.out).2
        have HBD := Lib.hid (show ∀ i, 0 ≤ bs i ∧ bs i + oneIf e (numAt T i) + (if isDir T e.num = true then totE T f' (namesAt T e.num) (numAt T i) else 0 : Nat) ≤ 100000 from fun i => by
          have h1 := HCT.out i
          have h2 : namesAt T k = x.names.take (j + 1) ++ x.names.drop (j + 1) := by rw [List.take_append_drop, HNX.out]
          rw [h2, tot_app, HE.out, tot_app, tot_cons, tot_nil] at h1
          rw [hbs]
          simp only
          omega)
        have t0 := ha4.cells.1
        have t1 := ha4.cells.2.1
        have hyd : (told y).dir = y.dir := rfl
        have hyn2 : (told y).num = e.num := hyn
        rw [hyd] at t1
        unfold ndeV
        unfold zeroN NdeObj at hw4
        unfold zeroN at s1 s2 s3 s4
        simp only at hw4 s1 s2 s3 s4
        clear CG hB3 hB4 z4 ha4 hs4 hBu hp3 hbs hyn hyd hyn2
        go_wp2
        go_loopw [19] (fun i wx => ∃ t : Nat, t ≤ n ∧ i = .int .i64 t ∧ Hid (Stir (· = p) u4 wx ∧ wx.heap[p]? = some (intsO n (fun i => bs i + (if i < t then oneIf e (numAt T i) else 0 : Nat))))) (fun i _ => n - (intOf i).toNat)
        case atStart =>
          refine ⟨0, Nat.zero_le _, rfl, Lib.hid ⟨Stir.refl _ _, ?_⟩⟩
          rw [HI4.out]
          congr 2
          funext i
          simp
        case round =>
          obtain ⟨t, ht, rfl, HJ⟩ := hrel
          have SA := Lib.hid (S4.out.trans HJ.out.1 (fun i hi => .inl hi))
          have hax := HA4.out.keep HJ.out.1 (fun e => by have := HP3.out; omega)
          have d0 : wr.cell? ⟨w3.heap.size, 0, none⟩ = some (.int .i64 e.num) := by rw [hax.cells.1]; exact congrArg (fun z => some (Value.int .i64 z)) (at_mem HY.out).2
          have d1 : wr.cell? ⟨w3.heap.size, 1, none⟩ = some (.bool y.dir) := hax.cells.2.1
          clear hax
          by_cases htn : t < n
          · have hti : (t : Int) < (n : Int) := by omega
            have hw2 : RowKit.wrap64 ((t : Int) + 1) = (t : Int) + 1 := w64_cnt (by omega) (by have := HF.out.len; have := HNT.out; omega)
            have hll := HL.out.same (W' := wr) SA.out.size (fun b off cap e2 hlt => SA.out.block b hlt (HLP.out b off _ _ e2))
            have htl : t < (tolds T).length := by rw [HN.out]; exact htn
            obtain ⟨al, capl, eL, hlc⟩ := hll
            injection eL with eL1 _ _
            subst eL1
            obtain ⟨bl, ol, rfl, hbl, hlc2⟩ := hlc (by intro h; rw [h] at htl; simp at htl)
            have q0 : wr.cell? ⟨bl, ol + t * 4, none⟩ = some (.int .i64 (numAt T t)) := by rw [← numAt_is htl]; exact hlc2 t htl 0 (by omega)
            have hpc := intsO.cell HJ.out.2 htn
            have hpf := intsO.fr HJ.out.2 t
            simp only [Nat.lt_irrefl, if_false] at hpc
            have hz : bs t + ((0 : Nat) : Int) = bs t := by simp
            rw [hz] at hpc
            have hb := HBD.out t
            obtain ⟨z, hzz⟩ : ∃ z, bs t = z := ⟨_, rfl⟩
            rw [hzz] at hpc hb
            have hwz := w64_cnt (z := z) hb.1 (by omega)
            have HZZ := Lib.hid hzz
            obtain ⟨nt, hnt⟩ : ∃ nt, numAt T t = nt := ⟨_, rfl⟩
            have HNT2 := Lib.hid hnt
            rw [hnt] at q0
            have SD : Stir (fun _ => False) wr wr.drew := (Stir.refl _ wr).drew
            have JD := Lib.hid (show Stir (· = p) u4 wr.drew ∧ wr.drew.heap[p]? = some (intsO n (fun i => bs i + (if i < t then oneIf e (numAt T i) else 0 : Nat))) from ⟨HJ.out.1.trans SD (fun _ f => f.elim), (SD.block p (lt_of_heap HJ.out.2) (fun f => f)).trans HJ.out.2⟩)
            clear hz hb hzz hnt hlc hlc2 htl hbl SD
            by_cases hne : nt = e.num
            · as_aux_lemma =>
              have heq : (nt == e.num) = true := by simp [hne]
              have HNE := Lib.hid hne
              obtain ⟨w5, hw5⟩ : ∃ w5, wr.drew.setCell ⟨p, t, none⟩ (.int .i64 (z + 1)) = w5 := ⟨_, rfl⟩
              have H5 := Lib.hid (show Stir (· = p) u4 w5 ∧ w5.heap[p]? = some (intsO n (fun i => bs i + (if i < t + 1 then oneIf e (numAt T i) else 0 : Nat))) from ⟨by rw [← hw5]; exact JD.out.1.set (.inl rfl) _, by
                rw [← hw5, intsO.set JD.out.2]
                congr 2
                funext i
                unfold updN
                by_cases e5 : i = t
                · subst e5
                  rw [if_pos rfl, if_pos (by omega), HNT2.out, HNE.out, ← HZZ.out]
                  simp [oneIf]
                · rw [if_neg e5]
                  show bs i + ((if i < t then oneIf e (numAt T i) else 0 : Nat) : Int) = _
                  by_cases e6 : i < t
                  · rw [if_pos e6, if_pos (by omega)]
                  · rw [if_neg e6, if_neg (by omega)]⟩)
              clear hne
              go_wp2
              go_region
              go_wp2
              go_roundw
              case rel => exact ⟨t + 1, htn, num_up hw2, H5⟩
              case measure => exact meas_v htn hw2 rfl rfl
            · as_aux_lemma =>
              have heq : (nt == e.num) = false := by simp [hne]
              have H5 := Lib.hid (show Stir (· = p) u4 wr.drew ∧ wr.drew.heap[p]? = some (intsO n (fun i => bs i + (if i < t + 1 then oneIf e (numAt T i) else 0 : Nat))) from ⟨JD.out.1, by
                rw [JD.out.2]
                congr 2
                funext i
                by_cases e5 : i = t
                · subst e5
                  have : oneIf e (numAt T i) = 0 := if_neg (fun h => hne (by rw [← HNT2.out]; exact h.symm))
                  rw [if_neg (Nat.lt_irrefl _), if_pos (by omega), this]
                · by_cases e6 : i < t
                  · rw [if_pos e6, if_pos (by omega)]
                  · rw [if_neg e6, if_neg (by omega)]⟩)
              clear hne
              go_wp2
              go_region
              go_wp2
              go_roundw
              case rel => exact ⟨t + 1, htn, num_up hw2, H5⟩
              case measure => exact meas_v htn hw2 rfl rfl
          · have hti : ¬ (t : Int) < (n : Int) := by omega
            have H6 := Lib.hid (show wr.heap[p]? = some (intsO n (fun i => bs i + (oneIf e (numAt T i) : Nat))) from by
              rw [HJ.out.2]
              exact congrArg some (intsO_congr (fun i hi => by rw [if_pos (by omega)])))
            cases hyd : y.dir with
            | true => as_aux_lemma =>
              rw [hyd] at d1
              have hde : isDir T e.num = true := by rw [(isDir_at HY.out).1]; exact hyd
              have hih := HIH.out f' (by omega) (HH.out.stay SA.out (fun b hb e2 => by subst e2; exact HH.out.not_ints HR.out hb)) (by rw [HNT.out]; exact H6.out) (by rw [HN.out]; exact HL.out.same (W' := wr) SA.out.size (fun b off cap e2 hlt => SA.out.block b hlt (HLP.out b off _ _ e2)))
                (by rw [HN.out]; exact HLP.out) HPP.out HPS.out HWN.out hde (by rw [List.length_append, List.length_singleton]; have := HQ.out; omega) (fun i => by have := HBD.out i; rw [if_pos hde] at this; omega)
              rw [HN.out, HNT.out] at hih
              have hq1 : (((q ++ [e.name]).length : Nat) : Int) = (Q : Int) + 1 := by rw [List.length_append, List.length_singleton, HQ2.out]; omega
              rw [hq1] at hih
              have hw1 : RowKit.wrap64 ((Q : Int) + 1) = (Q : Int) + 1 := w64_cnt (by omega) (by have := HQ2.out; have := HQ.out; omega)
              have HDE := Lib.hid hde
              clear hde hyd hq1
              go_wp2_with fail
              refine hih.mono ?_
              rintro r w7 ⟨rfl, hs7, hr7⟩
              have H7 := Lib.hid (show Stir (· = p) w1 w7 ∧ w7.heap[p]? = some (intsO n (fun t => cts t + totE T (f' + 1) (x.names.take (j + 1)) (numAt T t))) from ⟨(S14.out.trans HJ.out.1 (fun i hi => .inl hi)).trans hs7 (fun i hi => .inl hi), by
                rw [hr7]
                refine congrArg some (intsO_congr (fun i hi => ?_))
                rw [HE.out, tot_app, tot_cons, tot_nil, if_pos HDE.out, HBS.out]
                simp only
                omega⟩)
              clear hih hs7 hr7
              have hwj := HWJ.out
              go_wp2
              go_roundw
              case rel => exact ⟨j + 1, hlt, num_up hwj, H7⟩
              case measure => exact meas_v hlt hwj rfl rfl
            | false => as_aux_lemma =>
              rw [hyd] at d1
              have hde : ¬ isDir T e.num = true := by rw [(isDir_at HY.out).1, hyd]; simp
              have H7 := Lib.hid (show Stir (· = p) w1 wr ∧ wr.heap[p]? = some (intsO n (fun t => cts t + totE T (f' + 1) (x.names.take (j + 1)) (numAt T t))) from ⟨S14.out.trans HJ.out.1 (fun i hi => .inl hi), by
                rw [H6.out]
                refine congrArg some (intsO_congr (fun i hi => ?_))
                rw [HE.out, tot_app, tot_cons, tot_nil, if_neg hde, HBS.out]
                simp only
                omega⟩)
              clear hde hyd
              have hwj := HWJ.out
              go_wp2
              go_roundw
              case rel => exact ⟨j + 1, hlt, num_up hwj, H7⟩
              case measure => exact meas_v hlt hwj rfl rfl
    · as_aux_lemma =>
      have hji : ¬ (j : Int) < (La.length : Int) := by omega
      have hjx : x.names.take j = namesAt T k := by
        rw [HNX.out]
        exact List.take_of_length_le (by have := HLl.out; omega)
      have HFin := Lib.hid (show Stir (· = p) w wr ∧ wr.heap[p]? = some (intsO n (fun t => cts t + totE T f (namesAt T k) (numAt T t))) from
        ⟨HM0.out.trans HI.out.1 (fun i hi => .inl hi), by rw [← hjx]; exact HI.out.2⟩)
      clear hjx
      go_wp2
      go_ret
      exact ⟨rfl, HFin.out.1, HFin.out.2⟩
end
end Go.Proofs.YtfncoojpommfcaaGreatDoor

