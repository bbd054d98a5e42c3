/-
  The calls whose answers the document fixes.
-/
import Derived.Test.YtffebghkmobeoaaGreatDoorTabH
import Derived.Test.YtffebghkmobeoaaGreatDoorTabP
import Derived.Test.YtffebghkmobeoaaGreatDoorTabT
namespace Go.Proofs.YtffebghkmobeoaaGreatDoor
open Go.RowKit Go

theorem may_one {T : Type} {K : Kd T} {x : T} : May K [x] ↔ K.ok x := by
  constructor
  · intro h; exact h.ok (by simp)
  · intro h
    refine ⟨by simp, fun i hi _ => ?_⟩
    have h0 : i = 0 := by simpa using hi
    subst h0
    exact ⟨h, fun h0 => absurd h0 (by omega)⟩
theorem lst_one {T : Type} {C : T → List Value} {k : Nat} (w : World) (x : T) (t : TypeId) : LstAt C k (w.alloc (.cells (C x).toArray t)) (.slice (some ⟨w.heap.size, 0, none⟩) 1 1) [x] := by
  refine ⟨_, 1, rfl, fun _ => ⟨w.heap.size, 0, rfl, by simp, fun j hj i hi => ?_⟩⟩
  have h0 : j = 0 := by simpa using hj
  subst h0
  have h := heap_alloc_new w (.cells (C x).toArray t)
  generalize w.alloc (.cells (C x).toArray t) = W at h ⊢
  simp [World.cell?, h]
theorem Parsed.is {T : Type} {K : Kd T} {C : T → List Value} {k : Nat} {te : TypeId} {s : List UInt8} {w w' : World} {e : Ending} {l : List T} {f : Rd → T × Rd} (hf : Reads K f) (h : Parsed K C k te s w e w') (hl : IsL K s l) :
    (∃ v, e = .returned (.tuple #[v, .int .i64 0]) ∧ w'.ownsRow w.heap.size te k v l.length (l.flatMap C)) ∧ Below w.heap.size w w' := by
  obtain ⟨h1, h2⟩ := h
  refine ⟨?_, h2⟩
  rcases h1 with ⟨m, v, hm, he, hr⟩ | ⟨hno, _⟩
  · obtain rfl := IsL.uniq hf hm hl
    exact ⟨v, he, hr⟩
  · exact absurd hl (hno l)
theorem Parsed.no {T : Type} {K : Kd T} {C : T → List Value} {k : Nat} {te : TypeId} {s : List UInt8} {w w' : World} {e : Ending} (h : Parsed K C k te s w e w') (hl : ∀ l, ¬ IsL K s l) : e = .returned (.tuple #[.slice none 0 0, .int .i64 120]) ∧ Below w.heap.size w w' := by
  obtain ⟨h1, h2⟩ := h
  refine ⟨?_, h2⟩
  rcases h1 with ⟨m, v, hm, he, hr⟩ | ⟨hno, h⟩
  · exact absurd hm (hl m)
  · exact h
theorem rdsE : Reads kE (entRd 65535) := readsE (by omega)
theorem rdsI : Reads kI (inoRd 65535 65535 4095 16384) := readsI (by omega) (by omega) (by omega) (by omega)
theorem rdsS : Reads kS (snpRd 1099511627776 7 4095 16384) := readsS (by omega) (by omega) (by omega) (by omega)

def fEnt : Ent := ⟨⟨#[97]⟩, 2⟩
def fIno : Ino := ⟨1, true, 2, 0, 0⟩
def fSnp : Snp := ⟨⟨#[115]⟩, 1, 8, 0, 0⟩
theorem fEnt_may : May kE [fEnt] := may_one.2 ⟨⟨by decide, by decide, by decide, by decide, by decide⟩, by decide, by decide⟩
theorem fIno_may : May kI [fIno] := may_one.2 ⟨by decide, by decide, by decide, by decide, .inl ⟨rfl, rfl⟩⟩
theorem fSnp_not : ¬ May kS [fSnp] := fun h => by
  have h2 : (8 : Int) ≤ 7 := (may_one.1 h).2.2.2.2.1
  omega
theorem fEnt_laid : laidL kE [fEnt] = [1, 1, 97, 2] := by
  have e1 : dg 1 = [1] := by rw [dg_lt (by decide)]; rfl
  have e2 : dg 2 = [2] := by rw [dg_lt (by decide)]; rfl
  show dg 1 ++ ((dg 1 ++ [97]) ++ (dg 2 ++ []) ++ []) = _
  rw [e1, e2]; rfl
theorem fIno_laid : laidL kI [fIno] = [1, 1, 1, 2, 0, 0] := by
  have e1 : dg 1 = [1] := by rw [dg_lt (by decide)]; rfl
  have e2 : dg 2 = [2] := by rw [dg_lt (by decide)]; rfl
  have e0 : dg 0 = [0] := by rw [dg_lt (by decide)]; rfl
  show dg 1 ++ ((dg 1 ++ (dg 1 ++ (dg 2 ++ (dg 0 ++ (dg 0 ++ []))))) ++ []) = _
  rw [e1, e2, e0]; rfl
theorem fEnt_v : layV kE [fEnt] = .tuple #[.string ⟨#[1, 1, 97, 2]⟩, .int .i64 0] := by rw [layV_yes fEnt_may, fEnt_laid]; rfl
theorem fIno_v : layV kI [fIno] = .tuple #[.string ⟨#[1, 1, 1, 2, 0, 0]⟩, .int .i64 0] := by rw [layV_yes fIno_may, fIno_laid]; rfl
theorem fSnp_v : layV kS [fSnp] = .tuple #[.string ⟨#[]⟩, .int .i64 120] := layV_no fSnp_not
theorem fBad : ∀ l, ¬ IsL kE [2, 1, 98, 2, 1, 97, 2] l := isL_none rdsE fun h => by
  have e : (parsed (entRd 65535) [2, 1, 98, 2, 1, 97, 2]).1 = [⟨⟨#[98]⟩, 2⟩, ⟨⟨#[97]⟩, 2⟩] := rfl
  have h2 := h.2
  rw [e] at h2
  have h3 : Op.bytesLess (⟨#[98]⟩ : ByteArray).toList (⟨#[97]⟩ : ByteArray).toList = true := (h2.2 1 (by simp) (by simp)).2 (by decide)
  rw [toList_eq, toList_eq] at h3
  exact absurd h3 (by decide)
theorem fName1 : nameB ⟨#[97, 46, 98]⟩ = true := nameB_yes ⟨by decide, by decide, by decide, by decide, by decide⟩
theorem fName2 : nameB ⟨#[65]⟩ = false := nameB_no fun h => absurd (h.2.2.1 65 (by decide)) (by decide)
theorem fName3 : nameB ⟨#[46, 46]⟩ = false := nameB_no fun h => absurd rfl h.2.2.2.2

set_option maxRecDepth 100000 in
set_option maxHeartbeats 4000000 in
theorem fixed_any (w : World) (hg : GE w) :
    Calls Tryz.prog 8 #[] w fun e w' => e = .returned (.bool true) ∧ Below w.heap.size w w' := by
  have C1 : ∀ w : World, Calls Tryz.prog 20 #[.slice (some ⟨w.heap.size, 0, none⟩) 1 1] (w.alloc (.cells #[.string ⟨#[97]⟩, .int .i64 2] 58)) fun e w' => e = .returned (.tuple #[.string ⟨#[1, 1, 97, 2]⟩, .int .i64 0]) ∧ Below w.heap.size w w' := fun w => by
    refine (ents_any _ [fEnt] (by simp) (by intro x hx; obtain rfl := List.mem_singleton.1 hx; decide) _ (lst_one w fEnt _)).mono ?_
    rintro e w' ⟨rfl, hB⟩
    rw [fEnt_v]
    exact ⟨rfl, ((Below.refl _ w).alloc (Nat.le_refl _) _).trans (hB.mono (by simp))⟩
  have C2 : ∀ w : World, GE w → Calls Tryz.prog 21 #[.string ⟨#[2, 1, 98, 2, 1, 97, 2]⟩] w fun e w' => e = .returned (.tuple #[.slice none 0 0, .int .i64 120]) ∧ Below w.heap.size w w' := fun w hg =>
    (entParses_any ⟨#[2, 1, 98, 2, 1, 97, 2]⟩ (by decide) w hg).mono fun e w' h => h.no fBad
  have C3 : ∀ w : World, GE w → Calls Tryz.prog 21 #[.string ⟨#[1, 1, 97, 2]⟩] w fun e w' => (∃ v, e = .returned (.tuple #[v, .int .i64 0]) ∧ LstAt entC 2 w' v [fEnt]) ∧ Below w.heap.size w w' := fun w hg =>
    (entParses_any ⟨#[1, 1, 97, 2]⟩ (by decide) w hg).mono fun e w' h => by
      obtain ⟨⟨v, he, hr⟩, hB⟩ := h.is rdsE (l := [fEnt]) ⟨fEnt_may, fEnt_laid⟩
      exact ⟨⟨v, he, lst_of_owns entC_len (by decide) hr⟩, hB⟩
  have C4 : ∀ w : World, Calls Tryz.prog 22 #[.slice (some ⟨w.heap.size, 0, none⟩) 1 1] (w.alloc (.cells #[.int .i64 1, .bool true, .int .i64 2, .int .i64 0, .int .i64 0] 64)) fun e w' => e = .returned (.tuple #[.string ⟨#[1, 1, 1, 2, 0, 0]⟩, .int .i64 0]) ∧ Below w.heap.size w w' := fun w => by
    refine (inos_any _ [fIno] (by simp) _ (lst_one w fIno _)).mono ?_
    rintro e w' ⟨rfl, hB⟩
    rw [fIno_v]
    exact ⟨rfl, ((Below.refl _ w).alloc (Nat.le_refl _) _).trans (hB.mono (by simp))⟩
  have C5 : ∀ w : World, Calls Tryz.prog 4 #[.slice (some ⟨w.heap.size, 0, none⟩) 1 1] (w.alloc (.cells #[.string ⟨#[115]⟩, .int .i64 1, .int .i64 8, .int .i64 0, .int .i64 0] 35)) fun e w' => e = .returned (.tuple #[.string ⟨#[]⟩, .int .i64 120]) ∧ Below w.heap.size w w' := fun w => by
    refine (snps_any _ [fSnp] (by simp) (by intro x hx; obtain rfl := List.mem_singleton.1 hx; decide) _ (lst_one w fSnp _)).mono ?_
    rintro e w' ⟨rfl, hB⟩
    rw [fSnp_v]
    exact ⟨rfl, ((Below.refl _ w).alloc (Nat.le_refl _) _).trans (hB.mono (by simp))⟩
  have C6 : ∀ w : World, GE w → Calls Tryz.prog 23 #[.string ⟨#[1, 1, 1, 2, 0, 0]⟩] w fun e w' => (∃ g cap, e = .returned (.tuple #[.slice (some ⟨g, 0, none⟩) 1 cap, .int .i64 0]) ∧ w'.cell? ⟨g, 1, none⟩ = some (.bool true) ∧ g < w'.heap.size) ∧ Below w.heap.size w w' := fun w hg =>
    (inoParses_any ⟨#[1, 1, 1, 2, 0, 0]⟩ (by decide) w hg).mono fun e w' h => by
      obtain ⟨⟨v, he, hr⟩, hB⟩ := h.is rdsI (l := [fIno]) ⟨fIno_may, fIno_laid⟩
      refine ⟨?_, hB⟩
      rcases hr.2 with ⟨_, h0⟩ | ⟨g, cap, cur, rfl, h2, h3, h4⟩
      · simp at h0
      · exact ⟨g, cap, he, by rw [hr.cellAt 1 (by simp)]; rfl, lt_of_heap h3⟩
  have C7 : ∀ (w : World) (v : Value), LstAt entC 2 w v [fEnt] → Calls Tryz.prog 24 #[v, .slice (some ⟨w.heap.size, 0, none⟩) 1 1] (w.alloc (.cells #[.string ⟨#[97]⟩, .int .i64 2] 58)) fun e w' => e = .returned (.bool true) ∧ Below w.heap.size w w' := fun w v hv => by
    refine (entSame_any _ _ [fEnt] [fEnt] (by simp) (by simp) _ (hv.later ((Below.refl _ w).alloc (Nat.le_refl _) _)) (lst_one w fEnt _)).mono ?_
    rintro e w' ⟨rfl, hB⟩
    rw [sameB_yes rfl]
    exact ⟨rfl, ((Below.refl _ w).alloc (Nat.le_refl _) _).trans (hB.mono (by simp))⟩
  have N1 := fun w => name_any ⟨#[97, 46, 98]⟩ (by decide) w
  have N2 := fun w => name_any ⟨#[65]⟩ (by decide) w
  have N3 := fun w => name_any ⟨#[46, 46]⟩ (by decide) w
  rw [fName1] at N1
  rw [fName2] at N2
  rw [fName3] at N3
  have HC1 := Lib.hid C1
  have HC2 := Lib.hid C2
  have HC3 := Lib.hid C3
  have HC4 := Lib.hid C4
  have HC5 := Lib.hid C5
  have HC6 := Lib.hid C6
  have HC7 := Lib.hid C7
  have HN1 := Lib.hid N1
  have HN2 := Lib.hid N2
  have HN3 := Lib.hid N3
  clear C1 C2 C3 C4 C5 C6 C7 N1 N2 N3
  go_enter Tryz.func8, Tryz.ntmps8
  go_wp2_with fail
  refine (HC1.out _).mono ?_
  rintro e w1 ⟨rfl, B1⟩
  have HB1 := Lib.hid B1
  clear B1
  go_wp2_with fail
  refine (HC2.out _ (hg.below HB1.out)).mono ?_
  rintro e w2 ⟨rfl, B2⟩
  have HB2 := Lib.hid (HB1.out.trans (B2.mono HB1.out.size))
  clear B2
  go_wp2_with fail
  refine (HC3.out _ (hg.below HB2.out)).mono ?_
  rintro e w3 ⟨⟨v, rfl, hv⟩, B3⟩
  obtain ⟨av, cv, rfl⟩ := hv.shape
  have HV3 := Lib.hid hv
  have HB3 := Lib.hid (HB2.out.trans (B3.mono HB2.out.size))
  clear B3 hv
  go_wp2_with fail
  refine (HC4.out _).mono ?_
  rintro e w4 ⟨rfl, B4⟩
  have HV4 := Lib.hid (HV3.out.later B4)
  have HB4 := Lib.hid (HB3.out.trans (B4.mono HB3.out.size))
  clear B4
  go_wp2_with fail
  refine (HC5.out _).mono ?_
  rintro e w5 ⟨rfl, B5⟩
  have HV5 := Lib.hid (HV4.out.later B5)
  have HB5 := Lib.hid (HB4.out.trans (B5.mono HB4.out.size))
  clear B5
  go_wp2_with fail
  refine (HC6.out _ (hg.below HB5.out)).mono ?_
  rintro e w6 ⟨⟨g, cap, rfl, hc, hgl⟩, B6⟩
  have HV6 := Lib.hid (HV5.out.later B6)
  have HB6 := Lib.hid (HB5.out.trans (B6.mono HB5.out.size))
  clear B6
  have HK := Lib.hid (show ∀ W, Below w6.heap.size w6 W → W.cell? ⟨g, 1, none⟩ = some (.bool true) from fun W hW => (World.cell?_of_block (w := w6) (hW.block g hgl)).trans hc)
  clear hc hgl
  go_wp2_with fail
  refine (HC7.out _ _ HV6.out).mono ?_
  rintro e w7 ⟨rfl, B7⟩
  have hk := HK.out w7 B7
  have HB7 := Lib.hid (HB6.out.trans (B7.mono HB6.out.size))
  clear B7
  go_wp2_with fail
  refine (HN1.out _).mono ?_
  rintro e w' ⟨rfl, rfl⟩
  go_wp2_with fail
  refine (HN2.out _).mono ?_
  rintro e w' ⟨rfl, rfl⟩
  go_wp2_with fail
  refine (HN3.out _).mono ?_
  rintro e w' ⟨rfl, rfl⟩
  go_wp2_with fail
  go_ret
  exact ⟨rfl, HB7.out⟩
end Go.Proofs.YtffebghkmobeoaaGreatDoor

