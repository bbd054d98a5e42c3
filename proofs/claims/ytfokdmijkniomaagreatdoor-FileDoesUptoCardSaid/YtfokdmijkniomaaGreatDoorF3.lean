/-
  FilL / FilM / FilN.
-/
import Derived.Test.YtfokdmijkniomaaGreatDoorF2
import Derived.Maps.RangeWalk
import Derived.LoopNIn
namespace Go.Proofs.YtfokdmijkniomaaGreatDoor
open Go.RowKit Go Go.Maps

theorem w64_nat' (a b : Nat) (ha : a ≤ 1000000) (hb : b ≤ 1000000) : RowKit.wrap64 ((a : Int) + (b : Int)) = (a : Int) + (b : Int) := by
  simp [RowKit.wrap64]; omega
section
variable {w w' w2 : World} {B c : Nat} {F : Nat → Prop} {T : List Nod}
theorem TreeAt.len {c m : Nat} {P : Int → Nat} {G : Int → Option Nat} {T : List Nod} {D : DataW Unit} {w : World} (h : TreeAt c m P G T D w) (ty : TypeId) :
    (Builtin.len_ #[51] ty #[.map (some m)]).run Tryz.prog w = .ok (.int .i64 T.length) w := by
  rw [← h.size]; exact h.map.len Tryz.underlying51 ty
set_option maxRecDepth 100000 in
set_option maxHeartbeats 2000000 in
theorem create_any (h : TreeIs B F c T w) (hG : Formed T) {s : ByteArray} (hs : s.size ≤ 281474976710656) {l : List ByteArray} (hp : IsPath s l) (dir : Bool) :
    Calls Tryz.prog 22 #[.pointer (some ⟨c, 0, none⟩), .string s, .bool dir] w fun e w' => e = .returned (.int .i64 (makeV T l dir).2) ∧ LeftT B F c (makeV T l dir).1 w w' := by
  have HI := Lib.hid h
  obtain ⟨m, P, G, D, h, hF, hB⟩ := h
  have C := place_any h hG hs hp
  have HH := Lib.hid h
  have HG := Lib.hid hG
  have HF := Lib.hid hF
  have HB := Lib.hid hB
  unfold makeV
  cases hpl : placeE T l with
  | error e =>
    have he := place_err hpl
    have he0 : (e != 0) = true := by simp; omega
    rw [hpl] at C
    simp only
    unfold placeRes at C
    simp only at C
    clear h hG hF hB hpl he hp
    go_enter Tryz.func22, Tryz.ntmps22
    go_wp2_with fail
    refine C.mono ?_
    rintro e w1 ⟨rfl, hB1⟩
    go_wp2
    go_ret
    exact ⟨rfl, LeftT.same HI.out hB1⟩
  | ok q =>
    obtain ⟨p, t⟩ := q
    rw [hpl] at C
    unfold placeRes at C
    simp only at C
    simp only
    obtain ⟨el, hw, x, hx, hd, hlo, hl60⟩ := placeE_ok hpl
    have ht := (hp.snoc_lt el).2
    have hsz : t.size ≤ maxLen := by have := ht.2.1; unfold maxLen; omega
    have hTl := hG.len
    by_cases hlen : 60 ≤ T.length
    · rw [if_pos hlen]
      have hge : (60 : Int) ≤ (T.length : Int) := by omega
      have hge2 : ¬ (T.length : Int) < 60 := by omega
      clear h hG hF hB hpl hp el hw hx hd hlo hl60 ht hsz hTl hlen
      go_enter Tryz.func22, Tryz.ntmps22
      go_wp2_with fail
      refine C.mono ?_
      rintro e w1 ⟨rfl, hB1⟩
      have h1 := HH.out.later hB1
      have c0 := TObj.c0 h1.obj
      have hln := fun ty => h1.len ty
      clear h1
      go_wp2
      go_ret
      exact ⟨rfl, LeftT.same HI.out hB1⟩
    · rw [if_neg hlen]
      have hge : ¬ (60 : Int) ≤ (T.length : Int) := by omega
      have hge2 : (T.length : Int) < 60 := by omega
      have hfr := free_is hG.rise
      have hfl := free_le hG.rise
      have hfo : IntOk (freeV T) := ⟨by have := hfr.two; omega, by omega⟩
      have HX := Lib.hid hx
      have HFR := Lib.hid hfr
      have HD := Lib.hid hd
      have HR := Lib.hid (hG.riseE (at_mem hx).1)
      have HLO := Lib.hid hlo
      have H60 := Lib.hid hl60
      have hxT1 : nodeAt (putN ⟨freeV T, dir, 1, ⟨#[]⟩, []⟩ T) p = some x := by
        rw [at_put, if_neg (fun e => by simp only at e; rw [← e, hfr.none] at hx; cases hx), hx]
      have HX1 := Lib.hid hxT1
      have HU := Lib.hid (show namePut (putN ⟨freeV T, dir, 1, ⟨#[]⟩, []⟩ T) p t (freeV T) = putN { x with names := insE t (freeV T) x.names } (putN ⟨freeV T, dir, 1, ⟨#[]⟩, []⟩ T) by unfold namePut; rw [hxT1])
      have HTL := Lib.hid hTl
      have HS := Lib.hid hsz
      rw [HU.out]
      clear h hG hF hB hpl hp el hw hx hd hlo hl60 ht hsz hTl hlen hfr hfl hxT1
      have HFREE := Lib.hid (fun w1 (h1 : TreeAt c m P G T D w1) => free_any h1 (by have := HTL.out; omega))
      generalize freeV T = n at *
      have HADD := Lib.hid (fun w1 (h1 : TreeAt c m P G T D w1) => add_any h1 HTL.out hfo HFR.out.none dir)
      go_enter Tryz.func22, Tryz.ntmps22
      go_wp2_with fail
      refine C.mono ?_
      rintro e w1 ⟨rfl, hB1⟩
      have h1 := HH.out.later hB1
      have c0 := TObj.c0 h1.obj
      have hln := fun ty => h1.len ty
      have H1 := Lib.hid h1
      have HB1 := Lib.hid hB1
      clear h1 hB1 C
      have C2 := HFREE.out _ H1.out
      go_wp2_with fail
      refine C2.mono ?_
      rintro e w2 ⟨rfl, hB2⟩
      have h2 := H1.out.later hB2
      have C3 := HADD.out _ h2
      have H2 := Lib.hid h2
      have HB2 := Lib.hid (HB1.out.trans (hB2.mono HB1.out.size))
      clear c0 hln h2 hB2 C2
      go_wp2_with fail
      refine C3.mono ?_
      rintro e w3 ⟨rfl, hA⟩
      obtain ⟨P', G', D', h3, hS3, hf3, hsm⟩ := hA
      obtain ⟨eP, eG⟩ := hsm p x HX.out
      have hN := h3.node p x HX1.out
      rw [eP] at hN
      have hnm := hN.names
      obtain ⟨g, hg⟩ : ∃ g, G' p = some g := by
        rw [HD.out] at hnm
        exact hnm.isSome
      rw [hg] at hnm
      have d4 := NObj.c4 hN.obj
      rw [hg] at d4
      obtain ⟨w4, hup, hN4, ht4⟩ := hnm.put HR.out (by have := H60.out; omega) HS.out (k := n) hfo
      obtain ⟨r1, r2⟩ := h3.renames HX1.out hg hN4 ht4
      have HL := Lib.hid (show LeftT B F c (putN { x with names := insE t n x.names } (putN ⟨n, dir, 1, ⟨#[]⟩, []⟩ T)) w w4 from
        LeftT.of r1 HF.out HB.out (HH.out.lt (.inl rfl)) (((Stir.of_below HB2.out).trans hS3 (fun i hi => .inl (by rw [hi]; exact .inr (.inl rfl)))).trans r2 (fun i hi => (hf3 i hi).imp id (fun h => Nat.le_trans HB2.out.size h)))
          (fun i hi => (hf3 i (foot_turn (by simp only; rw [(at_mem HX.out).2]; exact HX1.out) hi)).imp id (fun h => Nat.le_trans HB2.out.size h)))
      clear h3 hS3 hf3 hsm hN hnm hN4 ht4 r1 r2 C3 eG
      go_wp2
      go_ret
      exact ⟨rfl, HL.out⟩

theorem fileR_is {T : List Nod} (hF : Formed T) {s : ByteArray} {l : List ByteArray} (hp : IsPath s l) : fileR T s = match fileE T l with
    | .error e => .error e
    | .ok x => .ok x.num := by
  unfold fileR fileE findE
  rw [findR_yes hp]
  cases hw : walkE T 1 l with
  | error e => rfl
  | ok k =>
    obtain ⟨x, hx⟩ := hF.walk_node hw
    simp only [hx, (isDir_at hx).1]
    cases x.dir with
    | true => rfl
    | false => simp [(at_mem hx).2]
theorem findR_is {T : List Nod} (hF : Formed T) {s : ByteArray} {l : List ByteArray} (hp : IsPath s l) : findR T s = match findE T l with
    | .error e => .error e
    | .ok x => .ok x.num := by
  unfold findE
  rw [findR_yes hp]
  cases hw : walkE T 1 l with
  | error e => rfl
  | ok k =>
    obtain ⟨x, hx⟩ := hF.walk_node hw
    simp only [hx, (at_mem hx).2]
theorem firsts_is (d : ByteArray) (a : Nat) : d.extract 0 a = firsts d a := by
  apply ba_ext
  unfold firsts
  rw [bs_list]
  exact Lib.extract_from_zero d a
theorem wrote_is (d s : ByteArray) (a k : Nat) (hk : k = min (a + s.size) d.size) : firsts d a ++ s ++ d.extract k d.size = wrote d a s := by
  apply ba_ext
  have e1 : (d.extract k d.size).data.toList = d.data.toList.drop k := Lib.extract_to_end d k
  have e2 : d.data.toList.length = d.size := Array.length_toList (xs := d.data)
  unfold wrote firsts
  rw [bs_list]
  simp only [ByteArray.data_append, Array.toList_append, bs_list, e1]
  congr 1
  by_cases h : a + s.size ≤ d.size
  · rw [hk, Nat.min_eq_left h]
  · rw [hk, Nat.min_eq_right (by omega), List.drop_of_length_le (by omega), List.drop_of_length_le (by omega)]
set_option maxRecDepth 100000 in
set_option maxHeartbeats 2000000 in
theorem cut_any (h : TreeIs B F c T w) (hG : Formed T) {s : ByteArray} (hs : s.size ≤ 281474976710656) {l : List ByteArray} (hp : IsPath s l) {a : Int} (ha : 0 ≤ a ∧ a ≤ 16384) :
    Calls Tryz.prog 24 #[.pointer (some ⟨c, 0, none⟩), .string s, .int .i64 a] w fun e w' => e = .returned (.int .i64 (cutV T l a).2) ∧ LeftT B F c (cutV T l a).1 w w' := by
  have HI := Lib.hid h
  obtain ⟨m, P, G, D, h, hF, hB⟩ := h
  have C := file_any h hG hs
  rw [fileR_is hG hp] at C
  have HH := Lib.hid h
  have HF := Lib.hid hF
  have HB := Lib.hid hB
  unfold cutV
  cases hf : fileE T l with
  | error e =>
    have he := file_err hf
    have he0 : (e != 0) = true := by simp; omega
    rw [hf] at C
    simp only at C ⊢
    unfold walkRes at C
    simp only at C
    clear h hG hF hB hf he hp
    go_enter Tryz.func24, Tryz.ntmps24
    go_wp2_with fail
    refine C.mono ?_
    rintro e w1 ⟨rfl, hB1⟩
    go_wp2
    go_ret
    exact ⟨rfl, LeftT.same HI.out hB1⟩
  | ok x =>
    obtain ⟨hfe, hxf⟩ := fileE_ok hf
    obtain ⟨_, hx⟩ := findE_ok hfe
    rw [hf] at C
    simp only at C ⊢
    unfold walkRes at C
    simp only at C
    have hdl := ((hG.nodeOk hx).2.1 hxf).2
    obtain ⟨n, rfl⟩ : ∃ n : Nat, a = n := ⟨a.toNat, by omega⟩
    have hn := ha.2
    by_cases hlt : (x.data.size : Int) < (n : Int)
    · rw [if_pos hlt]
      clear h hG hF hB hf hfe hxf hp hdl ha hn
      go_enter Tryz.func24, Tryz.ntmps24
      go_wp2_with fail
      refine C.mono ?_
      rintro e w1 ⟨rfl, hB1⟩
      have h1 := HH.out.later hB1
      have d3 := NObj.c3 (h1.node _ x hx).obj
      clear h1
      go_wp2
      go_ret
      exact ⟨rfl, LeftT.same HI.out hB1⟩
    · rw [if_neg hlt]
      have hle : n ≤ x.data.size := by omega
      have CC := fun w => clone_any (x.data.extract 0 n) (by rw [ByteArray.size_extract]; omega) w
      have HX := Lib.hid hx
      have HE := Lib.hid (firsts_is x.data n)
      rw [Int.toNat_natCast]
      clear h hG hF hB hf hfe hxf hp ha hx
      go_enter Tryz.func24, Tryz.ntmps24
      go_wp2_with fail
      refine C.mono ?_
      rintro e w1 ⟨rfl, hB1⟩
      have h1 := HH.out.later hB1
      have d3 := NObj.c3 (h1.node _ x HX.out).obj
      have H1 := Lib.hid h1
      have HB1 := Lib.hid hB1
      clear h1 hB1 C
      go_wp2_with fail
      refine (CC _).mono ?_
      rintro e w2 ⟨rfl, hB2⟩
      have h2 := H1.out.later hB2
      have hN := (h2.node _ x HX.out).obj
      have f3 := NObj.fr hN 3
      have d3 := NObj.c3 hN
      rw [HE.out] at *
      obtain ⟨r1, r2⟩ := h2.cell (y := { x with data := firsts x.data n }) HX.out rfl rfl rfl (NObj.set3 hN (firsts x.data n))
      have HL := Lib.hid (show LeftT B F c (putN { x with data := firsts x.data n } T) w (w2.setCell ⟨P x.num, 3, none⟩ (.string (firsts x.data n))) from
        LeftT.of r1 HF.out HB.out (HH.out.lt (.inl rfl)) ((Stir.of_below (HB1.out.trans (hB2.mono HB1.out.size))).trans r2 (fun i hi => .inl hi)) (fun i hi => .inl (foot_turn (y := { x with data := firsts x.data n }) HX.out hi)))
      clear h2 hN r1 r2
      go_wp2
      go_ret
      exact ⟨rfl, HL.out⟩
end
end Go.Proofs.YtfokdmijkniomaaGreatDoor

namespace Go.Proofs.YtfokdmijkniomaaGreatDoor
open Go.RowKit Go Go.Maps

section
variable {w w' w2 : World} {B c : Nat} {F : Nat → Prop} {T : List Nod}
theorem c_le (l : List Ent) (k : Int) : cE l k ≤ l.length := by
  rw [len_sum]
  unfold cE
  induction l with
  | nil => exact Nat.le_refl _
  | cons x l ih =>
    rw [sum_cons, sum_cons]
    have : oneIf x k ≤ 1 := by unfold oneIf; split <;> omega
    omega
theorem sum_le {α : Type} {f : α → Nat} {n : Nat} : ∀ {l : List α}, (∀ x ∈ l, f x ≤ n) → sumK f l ≤ n * l.length
  | [], _ => by simp [sumK]
  | x :: l, h => by
    have h1 := h x (by simp)
    have h2 := sum_le (f := f) (n := n) (l := l) fun y hy => h y (List.mem_cons_of_mem _ hy)
    rw [sum_cons, List.length_cons, Nat.mul_succ]
    omega
theorem Formed.cnt_le (h : Formed T) (k : Int) : cnt T k ≤ 3600 := by
  have h1 : cnt T k ≤ 60 * T.length := sum_le fun x hx => by
    refine Nat.le_trans (c_le _ _) ?_
    cases hd : x.dir with
    | true => exact (h.dir x hx hd).2.2.1
    | false => rw [(h.file x hx hd).1]; simp
  have := h.len
  omega
set_option maxRecDepth 100000 in
set_option maxHeartbeats 2000000 in
theorem link_any (h : TreeIs B F c T w) (hG : Formed T) {s u : ByteArray} (hs : s.size ≤ 281474976710656) (hu : u.size ≤ 281474976710656) {l l2 : List ByteArray} (hp : IsPath s l) (hq : IsPath u l2) :
    Calls Tryz.prog 25 #[.pointer (some ⟨c, 0, none⟩), .string s, .string u] w fun e w' => e = .returned (.int .i64 (linkV T l l2).2) ∧ LeftT B F c (linkV T l l2).1 w w' := by
  have HI := Lib.hid h
  obtain ⟨m, P, G, D, h, hF, hB⟩ := h
  have C := file_any h hG hs
  rw [fileR_is hG hp] at C
  have HH := Lib.hid h
  have HF := Lib.hid hF
  have HB := Lib.hid hB
  have HG := Lib.hid hG
  unfold linkV
  cases hf : fileE T l with
  | error e =>
    have he := file_err hf
    have he0 : (e != 0) = true := by simp; omega
    rw [hf] at C
    simp only at C ⊢
    unfold walkRes at C
    simp only at C
    clear h hG hF hB hf he hp
    go_enter Tryz.func25, Tryz.ntmps25
    go_wp2_with fail
    refine C.mono ?_
    rintro e w1 ⟨rfl, hB1⟩
    go_wp2
    go_ret
    exact ⟨rfl, LeftT.same HI.out hB1⟩
  | ok x =>
    obtain ⟨hfe, hxf⟩ := fileE_ok hf
    obtain ⟨_, hx⟩ := findE_ok hfe
    rw [hf] at C
    simp only at C ⊢
    unfold walkRes at C
    simp only at C
    have C2 := fun w1 (h1 : TreeAt c m P G T D w1) => place_any h1 HG.out hu hq
    cases hpl : placeE T l2 with
    | error e =>
      have he := place_err hpl
      have he0 : (e != 0) = true := by simp; omega
      rw [hpl] at C2
      unfold placeRes at C2
      simp only at C2
      have HC2 := Lib.hid C2
      clear h hG hF hB hf he hp hpl C2 hfe hx hxf
      go_enter Tryz.func25, Tryz.ntmps25
      go_wp2_with fail
      refine C.mono ?_
      rintro e w1 ⟨rfl, hB1⟩
      have C3 := HC2.out w1 (HH.out.later hB1)
      have HB1 := Lib.hid hB1
      clear hB1
      go_wp2_with fail
      refine C3.mono ?_
      rintro e w2 ⟨rfl, hB2⟩
      go_wp2
      go_ret
      exact ⟨rfl, LeftT.same HI.out (HB1.out.trans (hB2.mono HB1.out.size))⟩
    | ok q =>
      obtain ⟨p, t⟩ := q
      rw [hpl] at C2
      unfold placeRes at C2
      simp only at C2 ⊢
      have HC2 := Lib.hid C2
      obtain ⟨el, hw, y, hy, hd, hlo, hl60⟩ := placeE_ok hpl
      have ht := (hq.snoc_lt el).2
      have hsz : t.size ≤ maxLen := by have := ht.2.1; unfold maxLen; omega
      have hne : x.num ≠ p := fun e => by rw [← e, hx] at hy; cases hy; rw [hxf] at hd; cases hd
      have h1 : x.num ≠ 1 := fun e => by
        obtain ⟨r, hr, hrd, _⟩ := HG.out.root
        rw [← e, hx] at hr; cases hr; rw [hxf] at hrd; cases hrd
      have hlk := (HG.out.links x (at_mem hx).1 h1).1
      have hlb := HG.out.cnt_le x.num
      have hlb2 : 0 ≤ x.links ∧ x.links ≤ 3600 := by omega
      have hw64 : RowKit.wrap64 (x.links + 1) = x.links + 1 := by simp [RowKit.wrap64]; omega
      have hfo := HG.out.intOk hx
      have HX := Lib.hid hx
      have HY := Lib.hid hy
      have HD := Lib.hid hd
      have HR := Lib.hid (HG.out.riseE (at_mem hy).1)
      have HLO := Lib.hid hlo
      have H60 := Lib.hid hl60
      have HNE := Lib.hid hne
      have HU := Lib.hid (show namePut (putN { x with links := x.links + 1 } T) p t x.num = putN { x with links := x.links + 1 } (putN { y with names := insE t x.num y.names } T) by
        have e1 : nodeAt (putN { x with links := x.links + 1 } T) p = some y := by rw [at_put, if_neg hne, hy]
        unfold namePut
        rw [e1]
        exact put_comm ordI HG.out.rise (by simp only; rw [(at_mem hy).2]; exact hne.symm))
      rw [HU.out]
      have HS := Lib.hid hsz
      clear h hG hF hB hf hp hpl hfe hx hxf C2 el hw hy hd hlo hl60 ht hsz hne h1 hlk hlb
      go_enter Tryz.func25, Tryz.ntmps25
      go_wp2_with fail
      refine C.mono ?_
      rintro e w1 ⟨rfl, hB1⟩
      have C3 := HC2.out w1 (HH.out.later hB1)
      have HB1 := Lib.hid hB1
      clear hB1
      go_wp2_with fail
      refine C3.mono ?_
      rintro e w2 ⟨rfl, hB2⟩
      have HB2 := Lib.hid (HB1.out.trans (hB2.mono HB1.out.size))
      have h2 := HH.out.later HB2.out
      have hN := h2.node p y HY.out
      have hX := (h2.node _ x HX.out).obj
      have x0 := NObj.c0 hX
      have hnm := hN.names
      obtain ⟨g, hg⟩ : ∃ g, G p = some g := by
        rw [HD.out] at hnm
        exact hnm.isSome
      rw [hg] at hnm
      have d4 := NObj.c4 hN.obj
      rw [hg] at d4
      obtain ⟨w3, hup, hN3, ht3⟩ := NamesAt.put (w := w2.drew) hnm HR.out (by have := H60.out; omega) HS.out (k := x.num) hfo
      have h2d : TreeAt c m P G T D w2.drew := h2.stay ((Stir.refl (fun _ => False) w2).drew) (fun _ _ f => f)
      obtain ⟨r1, r2⟩ := h2d.renames HY.out hg hN3 ht3
      have hX3at : nodeAt (putN { y with names := insE t x.num y.names } T) x.num = some x := by
        rw [at_put, if_neg (by simp only; rw [(at_mem HY.out).2]; exact HNE.out.symm), HX.out]
      have hX3 := (r1.node _ x hX3at).obj
      have x2 := NObj.c2 hX3
      have fx2 := NObj.fr hX3 2
      obtain ⟨q1, q2⟩ := r1.cell (y := { x with links := x.links + 1 }) hX3at rfl rfl rfl (NObj.set2 hX3 (x.links + 1))
      have S1 : Stir (FootT c m P G T) w w3 := ((Stir.of_below (F := FootT c m P G T) HB2.out).drew).trans r2 (fun i hi => .inl hi)
      have f1 : ∀ i, FootT c m P G (putN { y with names := insE t x.num y.names } T) i → FootT c m P G T i := fun i hi => foot_turn (y := { y with names := insE t x.num y.names }) (by simp only; rw [(at_mem HY.out).2]; exact HY.out) hi
      have HL := Lib.hid (show LeftT B F c (putN { x with links := x.links + 1 } (putN { y with names := insE t x.num y.names } T)) w (w3.setCell ⟨P x.num, 2, none⟩ (.int .i64 (x.links + 1))) from
        LeftT.of q1 HF.out HB.out (HH.out.lt (.inl rfl)) (S1.trans q2 (fun i hi => .inl (f1 i hi))) (fun i hi => .inl (f1 i (foot_turn (y := { x with links := x.links + 1 }) hX3at hi))))
      clear S1 f1
      clear h2 h2d hN hX hnm hN3 ht3 r1 r2 q1 q2 hX3
      go_wp2
      go_region
      all_goals (
        go_wp2
        go_ret
        exact ⟨rfl, HL.out⟩)

theorem drop_putN {T : List Nod} (h : RiseN T) {y : Nod} {k : Int} (hy : y.num = k) : dropN k (putN y T) = dropN k T := by
  refine RiseN.ext ((h.put y).drop k) (h.drop k) fun j => ?_
  rw [at_drop, at_drop, at_put]
  by_cases e : k = j
  · simp [e]
  · rw [if_neg e, if_neg e, if_neg (by rw [hy]; exact e)]
set_option maxRecDepth 100000 in
set_option maxHeartbeats 2000000 in
theorem remove_any (h : TreeIs B F c T w) (hG : Formed T) {s : ByteArray} (hs : s.size ≤ 281474976710656) {l : List ByteArray} (hp : IsPath s l) :
    Calls Tryz.prog 27 #[.pointer (some ⟨c, 0, none⟩), .string s] w fun e w' => e = .returned (.int .i64 (removeV T l).2) ∧ LeftT B F c (removeV T l).1 w w' := by
  have HI := Lib.hid h
  have hrt := root_path hp
  obtain ⟨m, P, G, D, h, hF, hB⟩ := h
  unfold removeV
  by_cases hl : l = []
  · rw [decide_eq_true hl] at hrt
    rw [if_pos hl]
    clear h hG hF hB hp hl
    go_enter Tryz.func27, Tryz.ntmps27
    go_wp2
    go_ret
    exact ⟨rfl, LeftT.same HI.out (Below.refl _ _)⟩
  rw [decide_eq_false hl] at hrt
  rw [if_neg hl]
  have C := find_any h hG hs
  rw [findR_is hG hp] at C
  have HH := Lib.hid h
  have HF := Lib.hid hF
  have HB := Lib.hid hB
  have HG := Lib.hid hG
  cases hf : findE T l with
  | error e =>
    have he := find_err hf
    have he0 : (e != 0) = true := by simp; omega
    rw [hf] at C
    simp only at C ⊢
    unfold walkRes at C
    simp only at C
    clear h hG hF hB hf he hp hl
    go_enter Tryz.func27, Tryz.ntmps27
    go_wp2_with fail
    refine C.mono ?_
    rintro e w1 ⟨rfl, hB1⟩
    go_wp2
    go_ret
    exact ⟨rfl, LeftT.same HI.out hB1⟩
  | ok x =>
    obtain ⟨hw, hx⟩ := findE_ok hf
    rw [hf] at C
    simp only at C ⊢
    unfold walkRes at C
    simp only at C
    have CN := fun w1 (hB : Below w.heap.size w w1) => (HH.out.later hB).node x.num x hx
    by_cases hn : x.names = []
    · rw [if_neg (fun f => f hn)]
      obtain ⟨e1, e2, e3⟩ := up_ok hl hw
      obtain ⟨n1, _⟩ := HG.out.step_ne e3
      obtain ⟨xd, hxd, dd, ld⟩ := step_ok.1 e3
      have hdn : upOf T l ≠ x.num := fun e => by rw [e, hx] at hxd; cases hxd; rw [hn] at ld; cases ld
      have hxU : nodeAt (nameDel T (upOf T l) (lastOf l)) x.num = some x := by rw [at_nameDel hxd, if_neg hdn, hx]
      have hlk := (HG.out.links x (at_mem hx).1 n1).1
      have hlb := HG.out.cnt_le x.num
      have hlb2 : 0 ≤ x.links ∧ x.links ≤ 3600 := by omega
      have hw64 : RowKit.wrap64 (x.links - 1) = x.links - 1 := by simp [RowKit.wrap64]; omega
      have HCU := Lib.hid (fun w1 (h1 : TreeAt c m P G T D w1) => unname_any h1 HG.out hs hp hl hw)
      have HX := Lib.hid hx
      have HXU := Lib.hid hxU
      have hfo := HG.out.intOk hx
      have HXD := Lib.hid hxd
      have hlen0 : ((x.names.length : Nat) : Int) = 0 := by rw [hn]; rfl
      clear h hG hF hB hf hp hw e1 e2 e3 n1 hxd dd ld hdn hxU hlk hlb hn hl
      have HFT : Hid (∀ i, FootT c m P G (nameDel T (upOf T l) (lastOf l)) i → FootT c m P G T i) := Lib.hid (fun i hi => by
        have e : nameDel T (upOf T l) (lastOf l) = putN { xd with names := delE (lastOf l) xd.names } T := by unfold nameDel; rw [HXD.out]
        rw [e] at hi
        exact foot_turn (y := { xd with names := delE (lastOf l) xd.names }) (by simp only; rw [(at_mem HXD.out).2]; exact HXD.out) hi)
      generalize nameDel T (upOf T l) (lastOf l) = U at *
      obtain ⟨V, hV⟩ : ∃ V, (if x.links - 1 = 0 then dropN x.num U else putN { x with links := x.links - 1 } U) = V := ⟨_, rfl⟩
      have HV := Lib.hid hV
      rw [hV]
      clear hV
      go_enter Tryz.func27, Tryz.ntmps27
      go_wp2_with fail
      refine C.mono ?_
      rintro e w1 ⟨rfl, hB1⟩
      have hN := CN w1 hB1
      have d4 := NObj.c4 hN.obj
      have hln := fun ty => hN.names.len ty
      rw [hlen0] at hln
      have C3 := HCU.out w1 (HH.out.later hB1)
      have HB1 := Lib.hid hB1
      clear hN CN hB1 hlen0
      go_wp2_with fail
      refine C3.mono ?_
      rintro e w2 ⟨rfl, h2, hS2⟩
      have hX := (h2.node _ x HXU.out).obj
      have x2 := NObj.c2 hX
      have fx2 := NObj.fr hX 2
      obtain ⟨w3, hw3⟩ : ∃ w3, w2.setCell ⟨P x.num, 2, none⟩ (.int .i64 (x.links - 1)) = w3 := ⟨_, rfl⟩
      obtain ⟨q1, q2⟩ := h2.cell (y := { x with links := x.links - 1 }) HXU.out rfl rfl rfl (NObj.set2 hX (x.links - 1))
      rw [hw3] at q1 q2
      have hX3at : nodeAt (putN { x with links := x.links - 1 } U) x.num = some { x with links := x.links - 1 } := by rw [at_put, if_pos rfl]
      have hX3 := (q1.node _ _ hX3at).obj
      have y2 := NObj.c2 hX3
      have y0 := NObj.c0 hX3
      simp only at y0 y2
      have S3 : Stir (FootT c m P G T) w w3 := ((Stir.of_below (F := FootT c m P G T) HB1.out).trans hS2 (fun i hi => .inl hi)).trans q2 (fun i hi => .inl (HFT.out i hi))
      by_cases h0 : x.links - 1 = 0
      · have hc0 := TObj.c0 q1.obj
        have hq : TreeAt c m P G (putN { x with links := x.links - 1 } U) D w3.drew := q1.stay ((Stir.refl (fun _ => False) w3).drew) (fun _ _ f => f)
        obtain ⟨w4, hdel, hm4, ht4⟩ := World.ownsMap.drop (w := w3.drew) hq.map lawI Tryz.underlying51 (keyI hfo) 0
        obtain ⟨z1, z2⟩ := hq.less hX3at hm4 ht4
        rw [drop_putN (y := { x with links := x.links - 1 }) (k := x.num) h2.rise rfl] at z1
        have hl0 : (x.links - 1 == 0) = true := by rw [h0]; rfl
        have HVE := Lib.hid (show V = dropN x.num U by rw [← HV.out, if_pos h0])
        have HL := Lib.hid (show LeftT B F c (dropN x.num U) w w4 from
          LeftT.of z1 HF.out HB.out (HH.out.lt (.inl rfl)) (S3.drew.trans z2 (fun i hi => .inl (HFT.out i (foot_turn (y := { x with links := x.links - 1 }) HXU.out hi)))) (fun i hi => .inl (HFT.out i (foot_less hi))))
        clear h2 hS2 hX q1 q2 hX3 S3 hq hm4 ht4 z1 z2 h0 hX3at
        go_wp2
        go_region
        all_goals (
          go_wp2
          go_ret
          exact ⟨rfl, by rw [HVE.out]; exact HL.out⟩)
      · have hl0 : (x.links - 1 == 0) = false := beq_eq_false_iff_ne.2 h0
        have HVE := Lib.hid (show V = putN { x with links := x.links - 1 } U by rw [← HV.out, if_neg h0])
        have HL := Lib.hid (show LeftT B F c (putN { x with links := x.links - 1 } U) w w3 from
          LeftT.of q1 HF.out HB.out (HH.out.lt (.inl rfl)) S3 (fun i hi => .inl (HFT.out i (foot_turn (y := { x with links := x.links - 1 }) HXU.out hi))))
        clear h2 hS2 hX q1 q2 hX3 S3 h0 hX3at
        go_wp2
        go_ret
        exact ⟨rfl, by rw [HVE.out]; exact HL.out⟩
    · rw [if_pos hn]
      have hlen : 0 < x.names.length := List.length_pos_iff.2 hn
      have hlenz : (0 : Int) < (x.names.length : Int) := by omega
      clear h hG hF hB hf hp hl hn hw hx
      go_enter Tryz.func27, Tryz.ntmps27
      go_wp2_with fail
      refine C.mono ?_
      rintro e w1 ⟨rfl, hB1⟩
      have hN := CN w1 hB1
      have d4 := NObj.c4 hN.obj
      have hln := fun ty => hN.names.len ty
      clear hN CN
      go_wp2
      go_ret
      exact ⟨rfl, LeftT.same HI.out hB1⟩
end
end Go.Proofs.YtfokdmijkniomaaGreatDoor

namespace Go.Proofs.YtfokdmijkniomaaGreatDoor
open Go.RowKit Go Go.Maps

theorem keyS_inv {key : Value} {kl : Lit} (h : keyOf Tryz.prog 9 key = some kl) : ∃ s : ByteArray, key = .string s ∧ kl = litS s ∧ s.size ≤ maxLen := by
  have hk := Tryz.underlying9
  cases key <;> simp [keyOf, hk, mapKey] at h
  rename_i s
  exact ⟨s, rfl, h.2.symm, h.1⟩
theorem litS_self (s : ByteArray) : (litS s).sameKey (litS s) = true := WideAt.sameKey_self (show WideAt.IsKeyLit (litS s) from trivial)
theorem litI_self (k : Int) : (litI k).sameKey (litI k) = true := WideAt.sameKey_self (show WideAt.IsKeyLit (litI k) from trivial)
theorem litS_other {s t : ByteArray} (h : s ≠ t) : (litS s).sameKey (litS t) = false := sameKey_ne (fun e => h (litS_inj e))
theorem litI_other {s t : Int} (h : s ≠ t) : (litI s).sameKey (litI t) = false := sameKey_ne (fun e => h (litI_inj e))

/-- a step of a loop over names -/
theorem wpList_next_names (w : World) {ops : Array Oper} {rest : List Oper} {o : Oper} {a : Act} {Q : Exit → Act → World → Prop} (hg : o.guard = none) (it : Operand) (hop : o.op = Op.next it false)
    (b r n : Nat) (D : DataW Unit) (l : List Ent) (hD : ReadsN D l) (left : Lit → Bool) (cnt : Nat) (hit : a.eval it = .pointer (some ⟨r, 0, none⟩)) (h : w.ranges Tryz.prog 9 intElem b r n D left cnt)
    (hDone : cnt = 0 → (∀ kl, left kl = false) → wpList Tryz.prog ops Q rest (a.put o.dst (.tuple #[.bool false])) w)
    (hMore : ∀ (e : Ent) (w' : World) (cnt' : Nat), lookE l e.name = some e.num → left (litS e.name) = true → w'.ranges Tryz.prog 9 intElem b r n D (fun z => left z && !z.sameKey (litS e.name)) cnt' → cnt' < cnt →
      w.grownBy w' (some r) → w'.heap.size = w.heap.size → (Instr.entry (.pointer (some ⟨r, 0, none⟩))).run Tryz.prog w' = .ok (.tuple #[.string e.name, .int .i64 e.num]) w' → wpList Tryz.prog ops Q rest (a.put o.dst (.tuple #[.bool true, .string e.name, .int .i64 e.num])) w') :
    wpList Tryz.prog ops Q (o :: rest) a w :=
  wpList_next_ranges w hg it hop 9 lawS intElem Value.string (Value.int .i64)
    (fun key kl hkey => by obtain ⟨x, rfl, _⟩ := keyS_inv hkey; exact ⟨x, rfl⟩) (fun v y hv => by obtain ⟨p, rfl, _⟩ := plainElem_int_inv Tryz.underlying3 hv; exact ⟨p, rfl⟩)
    b r n D left cnt hit h hDone (fun x c kl y w' cnt' hkey hlk hv hat hrg hlt hgr hsz hen => by
      obtain ⟨x', ex, rfl, _⟩ := keyS_inv hkey
      cases ex
      obtain ⟨c', ec, e3, _⟩ := plainElem_int_inv Tryz.underlying3 hv
      cases ec
      have e4 := congrArg Prod.fst e3
      simp only at e4
      cases hs : lookE l x with
      | none =>
        have e1 := fun z => (hD x z).symm.trans (hat z)
        simp only [hs] at e1
        have := (e1 .nil).trans (e1 (.lit (.bool true))).symm
        cases this
      | some k =>
        have e1 := (hD x .nil).symm.trans (hat .nil)
        simp only [hs, e4] at e1
        have e5 : k = c := by simpa using e1
        subst e5
        exact hMore ⟨x, k⟩ w' cnt' hs hlk hrg hlt hgr hsz hen)
/-- a step of a loop over nodes -/
theorem wpList_next_nodes (w : World) {ops : Array Oper} {rest : List Oper} {o : Oper} {a : Act} {Q : Exit → Act → World → Prop} (hg : o.guard = none) (it : Operand) (hop : o.op = Op.next it false)
    (b r n : Nat) (D : DataW Unit) (P : Int → Nat) (T : List Nod) (hD : ReadsT D P T) (left : Lit → Bool) (cnt : Nat) (hit : a.eval it = .pointer (some ⟨r, 0, none⟩)) (h : w.ranges Tryz.prog 3 ptrElem b r n D left cnt)
    (hDone : cnt = 0 → (∀ kl, left kl = false) → wpList Tryz.prog ops Q rest (a.put o.dst (.tuple #[.bool false])) w)
    (hMore : ∀ (x : Nod) (w' : World) (cnt' : Nat), nodeAt T x.num = some x → left (litI x.num) = true → w'.ranges Tryz.prog 3 ptrElem b r n D (fun z => left z && !z.sameKey (litI x.num)) cnt' → cnt' < cnt →
      w.grownBy w' (some r) → w'.heap.size = w.heap.size → (Instr.entry (.pointer (some ⟨r, 0, none⟩))).run Tryz.prog w' = .ok (.tuple #[.int .i64 x.num, .pointer (some ⟨P x.num, 0, none⟩)]) w' → wpList Tryz.prog ops Q rest (a.put o.dst (.tuple #[.bool true, .int .i64 x.num, .pointer (some ⟨P x.num, 0, none⟩)])) w') :
    wpList Tryz.prog ops Q (o :: rest) a w :=
  wpList_next_ranges w hg it hop 3 lawI ptrElem (Value.int .i64) (fun z : Value => z)
    (fun key kl hkey => by obtain ⟨x, rfl, _⟩ := Maps.keyOf_int_inv Tryz.underlying3 hkey; exact ⟨x, rfl⟩) (fun v y hv => ⟨v, rfl⟩)
    b r n D left cnt hit h hDone (fun x c kl y w' cnt' hkey hlk hv hat hrg hlt hgr hsz hen => by
      obtain ⟨x', ex, rfl, _⟩ := Maps.keyOf_int_inv Tryz.underlying3 hkey
      cases ex
      cases hs : nodeAt T x with
      | none =>
        have e1 := fun z => (hD x z).symm.trans (hat z)
        simp only [hs] at e1
        have := (e1 .nil).trans (e1 (.lit (.bool true))).symm
        cases this
      | some z =>
        have e1 := (hD x .nil).symm.trans (hat .nil)
        simp only [hs] at e1
        obtain ⟨d, ps⟩ := y
        simp only at e1
        subst e1
        have hv2 := ptrElem_some hv
        subst hv2
        obtain ⟨_, hz⟩ := at_mem hs
        subst hz
        exact hMore z w' cnt' hs hlk hrg hlt hgr hsz hen)

theorem w64_small {s t : Nat} (h : s + t ≤ 100000000) : RowKit.wrap64 ((s : Int) + (t : Int)) = (s : Int) + (t : Int) := by
  simp [RowKit.wrap64]; omega
theorem max_nat (s t : Nat) : max (s : Int) ((t : Int) + 1) = ((max s (1 + t) : Nat) : Int) := by omega
/-! ### What is left of names -/
def leftL (left : Lit → Bool) (l : List Ent) : List Ent := l.filter fun e => left (litS e.name)
theorem leftL_none {left : Lit → Bool} (h : ∀ kl, left kl = false) (l : List Ent) : leftL left l = [] := by
  unfold leftL
  exact List.filter_eq_nil_iff.2 fun e _ => by simp [h]
theorem leftL_all {D : DataW Unit} {l : List Ent} (h : ReadsN D l) (hr : RiseE l) : leftL (Maps.has D) l = l := by
  unfold leftL
  refine List.filter_eq_self.2 fun e he => ?_
  rw [h.has, hr.look he]; rfl
theorem leftL_next {left : Lit → Bool} {e : Ent} : ∀ {l : List Ent}, RiseE l → e ∈ l → left (litS e.name) = true → (leftL left l).Perm (e :: leftL (fun z => left z && !z.sameKey (litS e.name)) l)
  | [], _, h, _ => by cases h
  | x :: l, hr, he, hl => by
    obtain ⟨h1, h2⟩ := List.pairwise_cons.1 hr
    unfold leftL
    rcases List.mem_cons.1 he with rfl | he2
    · rw [List.filter_cons_of_pos (by exact hl), List.filter_cons_of_neg (by simp [litS_self])]
      have : l.filter (fun z => left (litS z.name) && !(litS z.name).sameKey (litS e.name)) = l.filter (fun z => left (litS z.name)) := by
        refine List.filter_congr fun z hz => ?_
        have hne : z.name ≠ e.name := fun c => by have := h1 z hz; rw [c, ordB.irr] at this; cases this
        rw [litS_other hne]; simp
      rw [this]
    · have hne : x.name ≠ e.name := fun c => by have := h1 e he2; rw [c, ordB.irr] at this; cases this
      have ih := leftL_next (left := left) h2 he2 hl
      unfold leftL at ih
      by_cases hx : left (litS x.name) = true
      · rw [List.filter_cons_of_pos (by exact hx), List.filter_cons_of_pos (by simp [hx, litS_other hne])]
        exact (ih.cons x).trans (List.Perm.swap e x _)
      · rw [List.filter_cons_of_neg (by exact hx), List.filter_cons_of_neg (by simp [hx])]
        exact ih
theorem deepL_perm {g : Int → Nat} {l m : List Ent} (h : l.Perm m) : deepL g l = deepL g m := by
  induction h with
  | nil => rfl
  | cons x _ ih => rw [deepL, deepL, ih]
  | swap x y l => rw [deepL, deepL, deepL, deepL]; omega
  | trans _ _ i1 i2 => exact i1.trans i2

section
variable {w w' w2 : World} {c m : Nat} {P : Int → Nat} {G : Int → Option Nat} {T : List Nod} {D : DataW Unit}
theorem sum_bound {f : Ent → Nat} {n : Nat} {l : List Ent} (h : ∀ e ∈ l, f e ≤ n) : sumK f l ≤ n * l.length := sum_le h
theorem deepL_le {g : Int → Nat} {n : Nat} : ∀ {l : List Ent}, (∀ e ∈ l, g e.num ≤ n) → deepL g l ≤ n + 1
  | [], _ => Nat.zero_le _
  | x :: l, h => by
    have := h x (by simp)
    have := deepL_le (l := l) fun e he => h e (List.mem_cons_of_mem _ he)
    rw [deepL]; omega
set_option maxRecDepth 100000 in
set_option maxHeartbeats 4000000 in
/-- below a directory, if it is known of what its names stand for -/
theorem below_step (h : TreeAt c m P G T D w) (hF : Formed T) {k : Int} {x : Nod} (hx : nodeAt T k = some x) (hd : x.dir = true) (d g : Int → Nat) (hdb : ∀ e ∈ x.names, d e.num ≤ 100000) (hgb : ∀ e ∈ x.names, g e.num ≤ 1000)
    (hrec : ∀ e ∈ x.names, ∀ w1, TreeAt c m P G T D w1 → Calls Tryz.prog 56 #[.pointer (some ⟨c, 0, none⟩), .pointer (some ⟨P e.num, 0, none⟩)] w1 fun r w' => r = .returned (.tuple #[.int .i64 (d e.num), .int .i64 (g e.num)]) ∧ Below w1.heap.size w1 w') :
    Calls Tryz.prog 56 #[.pointer (some ⟨c, 0, none⟩), .pointer (some ⟨P k, 0, none⟩)] w fun r w' => r = .returned (.tuple #[.int .i64 (1 + sumK (fun e => d e.num) x.names : Nat), .int .i64 (deepL g x.names)]) ∧ Below w.heap.size w w' := by
  have hN := h.node k x hx
  have d1 := NObj.c1 hN.obj
  rw [hd] at d1
  have hnm := hN.names
  rw [hd] at hnm
  obtain ⟨q, hq⟩ := hnm.isSome
  have d4 := NObj.c4 hN.obj
  rw [hq] at d4 hnm
  obtain ⟨_, Dn, hown, hsz, hrd⟩ := hnm
  have hr := hF.riseE (at_mem hx).1
  have hlen := (hF.dir x (at_mem hx).1 hd).2.2.1
  have HH := Lib.hid h
  have HF := Lib.hid hF
  have HX := Lib.hid hx
  have HR := Lib.hid hr
  have HREC := Lib.hid hrec
  have HRD := Lib.hid hrd
  have HSUM := Lib.hid (fun (l : List Ent) (hl : ∀ e ∈ l, e ∈ x.names) => show sumK (fun e => d e.num) l ≤ 100000 * l.length from sum_bound fun e he => hdb e (hl e he))
  have HDEEP := Lib.hid (show deepL g x.names ≤ 1001 from deepL_le hgb)
  have HLEN := Lib.hid hlen
  have HGB := Lib.hid hgb
  have HDB := Lib.hid hdb
  obtain ⟨A, hA⟩ : ∃ A, 1 + sumK (fun e => d e.num) x.names = A := ⟨_, rfl⟩
  obtain ⟨M, hM⟩ : ∃ M, deepL g x.names = M := ⟨_, rfl⟩
  have HA := Lib.hid hA
  have HM := Lib.hid hM
  rw [hA, hM]
  have hAb : A ≤ 10000000 := by have := HSUM.out x.names (fun _ h => h); omega
  have hMb : M ≤ 1001 := by rw [← hM]; exact HDEEP.out
  have HAB := Lib.hid hAb
  have HMB := Lib.hid hMb
  clear h hF hx hr hrec hdb hgb hN hA hM hlen hAb hMb hd
  go_enter Tryz.func56, Tryz.ntmps56
  go_wp2_with (at_range; refine wpList_range_own _ rfl _ 56 rfl 9 3 lawS Tryz.underlying56 _ q x.names.length Dn rfl hown ?_; intro w0 hrg0 hg0 hs0)
  try go_frame
  have hB0 : Below w.heap.size w w0 := ⟨hg0.os, hg0.tape, hg0.output, hg0.size, fun k hk => hg0.block k hk (by simp)⟩
  have HB0 := Lib.hid hB0
  have HRG := Lib.hid hrg0
  have HOWN := Lib.hid hown
  clear hrg0 hg0 hs0 hB0 hown d1 d4 hsz
  go_loopw [4, 5] (fun a b wr => ∃ (s t : Nat) (left : Lit → Bool) (cnt : Nat), a = .int .i64 s ∧ b = .int .i64 t ∧ Hid (wr.ranges Tryz.prog 9 intElem q w.heap.size x.names.length Dn left cnt) ∧
      Hid (s + sumK (fun e => d e.num) (leftL left x.names) = A) ∧ Hid (max t (deepL g (leftL left x.names)) = M) ∧ Hid (Below w.heap.size w wr)) (fun _ _ wr => wr.rangeLeft q w.heap.size)
  case atStart =>
    exact ⟨1, 0, Maps.has Dn, Maps.size Dn, rfl, rfl, HRG, Lib.hid (by rw [leftL_all HRD.out HR.out]; exact HA.out), Lib.hid (by rw [leftL_all HRD.out HR.out, HM.out]; omega), HB0⟩
  case round =>
    obtain ⟨s, t, left, cnt, rfl, rfl, HRN, HS, HT, HB⟩ := hrel
    have hrg := HRN.out
    clear HRG
    go_wp2_with (at_next; refine wpList_next_names _ rfl _ rfl q w.heap.size x.names.length Dn x.names HRD.out _ _ rfl hrg ?_ ?_)
    · intro hc0 hl0
      have hs := HS.out
      have ht := HT.out
      rw [leftL_none hl0] at hs ht
      have hs1 : s = A := by simpa [sumK] using hs
      have ht1 : t = M := by simpa [deepL] using ht
      subst hs1; subst ht1
      clear hrg hs ht
      go_wp2
      go_ret2
      exact ⟨rfl, HB.out⟩
    · intro e w1 cnt1 hlk hlf hrg1 hlt hg1 hsz1 hen
      have hB1 : Below w.heap.size w w1 := ⟨hg1.os.trans HB.out.os, hg1.tape.trans HB.out.tape, hg1.output.trans HB.out.output, by rw [hsz1]; exact HB.out.size, fun i hi => (hg1.block i (Nat.lt_of_lt_of_le hi HB.out.size) (by simp; omega)).trans (HB.out.block i hi)⟩
      have hem : e ∈ x.names := look_mem hlk
      obtain ⟨_, y, hy⟩ := HF.out.kids x (at_mem HX.out).1 e hem
      have h1 := HH.out.later hB1
      have c0 := TObj.c0 h1.obj
      have hlo := h1.lookup_some (HF.out.intOk hy) hy
      have C := HREC.out e hem w1 h1
      have hperm := leftL_next HR.out hem hlf
      have hs := HS.out
      have ht := HT.out
      rw [sum_perm hperm, sum_cons] at hs
      rw [deepL_perm hperm, deepL] at ht
      have HS1 := Lib.hid (show (s + d e.num) + sumK (fun e => d e.num) (leftL (fun z => left z && !z.sameKey (litS e.name)) x.names) = A by omega)
      have HT1 := Lib.hid (show max (max t (1 + g e.num)) (deepL g (leftL (fun z => left z && !z.sameKey (litS e.name)) x.names)) = M by omega)
      have HRG1 := Lib.hid hrg1
      have HLT := Lib.hid hlt
      have HB1 := Lib.hid hB1
      have HM0 := Lib.hid (hrg.left_eq)
      have hgb := HGB.out e hem
      have hsA : s + d e.num ≤ 10000000 := by have := HAB.out; omega
      have hw1 := w64_small (s := s) (t := d e.num) (by omega)
      have hw2 := w64_small (s := g e.num) (t := 1) (by omega)
      have hmx := max_nat t (g e.num)
      clear hrg hrg1 hlt hg1 hsz1 h1 hem hy hlk hlf hperm hs ht hB1 hgb hsA
      generalize d e.num = dd at *
      generalize g e.num = gg at *
      go_wp2_with fail
      refine C.mono ?_
      rintro r w2 ⟨rfl, hB2⟩
      have hr2 := HRG1.out.kept (grown_of_below hB2) (by simp) (by simp)
      have HR2 := Lib.hid hr2
      have HLQ := Lib.hid (show w2.rangeLeft q w.heap.size < wr.rangeLeft q w.heap.size by rw [hr2.left_eq, HM0.out]; exact HLT.out)
      have HB2 := Lib.hid (HB1.out.trans (hB2.mono HB1.out.size))
      clear hr2 hB2 C c0 hlo
      go_wp2
      go_roundw
      case rel => exact ⟨s + dd, max t (1 + gg), _, _, (by rw [hw1]; simp), (by rw [show RowKit.wrap64 ((gg : Int) + 1) = (gg : Int) + 1 from hw2, hmx]), HR2, HS1, HT1, HB2⟩
      case measure => exact HLQ.out
end
end Go.Proofs.YtfokdmijkniomaaGreatDoor

