/-
  Whether any bytes are a log, and which records it has, is as the document says, and opening writes nothing: for every text, of which the first 6400 bytes are taken.
  Conditions: none besides the row's own.
-/
import Derived.Test.YthnpdiopaeommaaNvV
import Derived.Test.YthnpdiopaeommaaNvW
import Derived.Test.YthnpdiopaeommaaNvO
import Derived.Test.YthnpdiopaeommaaKitS
import Derived.OwnWalk
import Derived.Deep.RegionLaw
namespace Go.Proofs.Ythnpdiopaeommaa.reads
open Go.ChangeShapes Go.WideShapes Go.ChangeAt Go.RowKit Go

/-- the two logs beside each other -/
structure Both (w0 : World) (l b g m q r base : Nat) (u : Value) (s : DS) (zs : List Int) (v0 v2 : Value) (wo w : World) : Prop where
  log : LW w0 l b g m (openX s) w
  ref : RD q r (openG s) base u false s zs v0 v2 wo w
  ts : TextsAt w u ((openRecs s).getD [])
section
variable {w0 w w' wo : World} {l b g m q r base : Nat} {u : Value} {s : DS} {zs : List Int} {v0 v2 : Value}
theorem Both.later (h : Both w0 l b g m q r base u s zs v0 v2 wo w) (hB : Below w.heap.size w w') : Both w0 l b g m q r base u s zs v0 v2 wo w' := ⟨h.log.later hB, h.ref.below hB, h.ts.later hB⟩
end
theorem openE_zero {s : DS} (h : openE s = 0) : openForm s = false ∧ ∃ L, openRecs s = some L := by
  unfold openE at h
  split at h
  · cases h
  · split at h
    · rename_i h1; exact absurd h h1
    · split at h
      · cases h
      · rename_i h1
        split at h
        · rename_i h2; exact absurd h h2
        · split at h
          · rename_i h3
            cases e : openRecs s with
            | none => rw [e] at h3; cases h3
            | some L => exact ⟨by simpa using h1, L, rfl⟩
          · cases h
theorem few_recs : ∀ l : List ByteArray, l.length ≤ (recB l).length := fun l => by
  induction l with
  | nil => simp
  | cons r l ih => rw [recB_cons, List.length_append, List.length_append, length_leN, List.length_cons]; omega
/-- an operation whose result's place is named is taken first -/
theorem take_one {P : Program} {ops : Array Oper} {Q : Exit → Act → World → Prop} {md : Region.Mode} {i : Nat} {oi : Oper} {v : Value} {fuel : Nat} {listed : Array Bool} {a : Act} {w : World} (d : Nat) (hi : ops[i]? = some oi) (hd : oi.dst = some d)
    (hs : Region.noSelect ops = true) (hf : Region.free md ops listed i = true) (hr : (Region.ready md ops listed).contains i = true)
    (hQ : ∀ c a w, Q (.panic c) (a.put oi.dst v) w → Q (.panic c) a w) (hy : Yields P ops oi v a)
    (h : wpAny P md ops Q fuel (listed.setIfInBounds i true) (a.put (some d) v) w) : wpAny P md ops Q (fuel + 1) listed a w :=
  wpAny_take hi hs hf hr hQ hy (by rw [hd]; exact h)
set_option maxRecDepth 100000 in
set_option maxHeartbeats 8000000 in
theorem walk (image : ByteArray) (w : World) (hi : image.size ≤ 140737488351232) :
    Calls Try.prog 4 #[.string image] w fun r w' => r = .returned (.bool true) ∧ Below w.heap.size w w' := by
  obtain ⟨z, hz⟩ : ∃ z : Int, ((image.size : Int) + 63) / 64 = z := ⟨_, rfl⟩
  have hz2 : ((image.size : Int) + 63).tdiv 64 = z := by rw [Int.tdiv_eq_ediv_of_nonneg (by omega), hz]
  obtain ⟨P, Q, ⟨a1, a2, a3⟩, ⟨b1, b2, b3⟩, h5, h6⟩ := clamp z 1 100 (by omega)
  obtain ⟨k, rfl⟩ : ∃ k : Nat, Q = (k : Int) := ⟨Q.toNat, by omega⟩
  have hk1 : 1 ≤ k := by omega
  have hk2 : k ≤ 100 := by omega
  obtain ⟨w1, w2, m1, m2, hB2, hs2, m3⟩ := fill_text w image (64 * k) (by omega)
  have hx := size_filled image (64 * k)
  have hik : (64 : Int) * (k : Int) = ((64 * k : Nat) : Int) := by omega
  rw [← hik] at m1
  obtain ⟨x, hX⟩ : ∃ x, filled image (64 * k) = x := ⟨_, rfl⟩
  rw [hX] at m3 hx
  have C1 := fun w => open_bytes hx hk1 (by omega) w
  have C2 := fun w => ropen_yes x k hx hk1 (by omega) w
  have CF := fun w => fixed7_any w
  have hok := parts_ok hx hk1 (by omega)
  have hmade : (fresh (parts x k)).made = 0 := rfl
  have RB := fun (w w' : World) (r : Nat) (h : Opening x w r k w') hr => ref_bytes (w := w) (w' := w') (r := r) h hr
  generalize hs0 : fresh (parts x k) = s at *
  obtain ⟨cc, hcc⟩ : ∃ cc : Int, ((min (64 * k) image.size : Nat) : Int) = cc := ⟨_, rfl⟩
  have HB2 := Lib.hid hB2
  have HM3 := Lib.hid m3
  have HS2 := Lib.hid hs2
  have m30 := m3 w2 (Below.refl _ _)
  have hi63 : (image.size : Int) ≤ 140737488351232 := by omega
  clear hX m3 hB2 hs2 hik hx hs0 hcc
  go_enter Try.func4, Try.ntmps4
  go_wp2_with fail
  refine (C1 _).mono ?_
  rintro e w3 ⟨b, g, m, rfl, h3, ho3, hB3⟩
  have H3 := Lib.hid h3
  have HO3 := Lib.hid (show Over w.heap.size b g m from ⟨by have := ho3.1; have := HB2.out.size; omega, by have := ho3.2.1; have := HB2.out.size; omega, by have := ho3.2.2; have := HB2.out.size; omega⟩)
  have HB3 := Lib.hid (HB2.out.trans (hB3.mono HB2.out.size))
  have m33 := HM3.out w3 hB3
  clear h3 ho3 hB3 C1 m30 m1 m2
  go_wp2_with fail
  refine (C2 _).mono ?_
  rintro e w4 ⟨rfl, hop⟩
  obtain ⟨v0, hr4, hB4⟩ := RB _ _ _ hop (Nat.le_refl _)
  have HR4 := Lib.hid hr4
  have H4 := Lib.hid (H3.out.below hB4)
  have HB4 := Lib.hid (HB3.out.trans (hB4.mono HB3.out.size))
  clear hop hr4 hB4 C2 m33 RB
  have CO := open_any H4.out
  have CR := fun W (h : RefAt w3.heap.size w3.heap.size s [] v0 (.slice none 0 0) (.slice none 0 0) ⟨#[]⟩ W) => rlopen_any h hok (by rw [hmade]; decide)
  by_cases hE : openE s = 0
  · obtain ⟨hform, L, hL⟩ := openE_zero hE
    obtain ⟨hfit, _⟩ := openRecs_fits hL hform
    have hfl := few_recs L
    have hhalf : 64 * halfN s ≤ 1048576 := by have := hok.le; unfold halfN; omega
    have hrecs : (openX s).recs = L := by rw [openX, hL]; rfl
    have hgd : (openRecs s).getD [] = L := by rw [hL]; rfl
    rw [hE] at CO
    have HRecs := Lib.hid (And.intro hrecs hgd)
    have HE := Lib.hid hE
    have HFit := Lib.hid (show (recB L).length ≤ 1048576 by omega)
    have HFew := Lib.hid (show L.length ≤ 1048576 by omega)
    have KG := fun W l (h : LW w l b g m (openX s) W) => h.gen
    have KS := fun W l (h : LW w l b g m (openX s) W) => steps_any h.disk
    rw [show (openX s).disk = s from rfl, hmade] at KS
    have KK := fun W l (h : LW w l b g m (openX s) W) => h.records
    have KM := fun W l (h : LW w l b g m (openX s) W) => h.room
    rw [hrecs] at KK
    have hroom : (openX s).room = ((64 * halfN s : Nat) : Int) - ((recB L).length : Int) := by rw [LS.room, hrecs]; rfl
    rw [hroom] at KM
    have KR := fun W l q u wo (h : Both w l b g m q w3.heap.size w3.heap.size u s [] v0 (.slice none 0 0) wo W) => rroom_any h.ref hok h.ts (by rw [HRecs.out.2]; exact HFit.out) (by rw [HRecs.out.2]; exact HFew.out)
    rw [hgd] at KR
    obtain ⟨Rm, hRm⟩ : ∃ Rm : Int, ((64 * halfN s : Nat) : Int) - ((recB L).length : Int) = Rm := ⟨_, rfl⟩
    rw [hRm] at KM KR
    obtain ⟨G, hG⟩ : ∃ G : Nat, openG s = G := ⟨_, rfl⟩
    have HG := Lib.hid hG
    rw [show (openX s).gen = openG s from rfl, hG] at KG
    have hgg : ((G : Int) == (G : Int)) = true := by simp
    have hmm : (Rm == Rm) = true := by simp
    clear hform hL hfit hfl hhalf hrecs hgd hE hroom hRm hG
    go_wp2_with fail
    refine CO.mono ?_
    rintro e w5 ⟨a, rfl, hn5, hB5⟩
    obtain ⟨l, v, rfl, hl5, hv5⟩ : ∃ l v, a = .pointer (some ⟨l, 0, none⟩) ∧ w4.heap.size ≤ l ∧ LIs w4.heap.size l b g m v (openX s) w5 := by
      rcases hn5 with ⟨_, l, v, e1, e2, e3⟩ | ⟨e, _⟩
      · exact ⟨l, v, e1, e2, e3⟩
      · exact absurd rfl e
    have HL5 := Lib.hid (show LW w l b g m (openX s) w5 from ⟨⟨v, hv5.lower HB4.out.size⟩, Nat.le_trans HB4.out.size hl5, HO3.out, HB4.out.trans (hB5.mono HB4.out.size)⟩)
    have HR5 := Lib.hid (HR4.out.below hB5)
    have CR5 := CR _ HR5.out
    clear hn5 hl5 hv5 hB5 CO CR
    go_wp2_with fail
    refine CR5.mono ?_
    rintro e w6 ⟨hor, hB6⟩
    obtain ⟨q, u, rfl, hrd, hts⟩ : ∃ q u, e = .returned (.tuple #[.pointer (some ⟨q, 0, none⟩), .int .i64 0]) ∧ RD q w3.heap.size (openG s) w3.heap.size u false s [] v0 (.slice none 0 0) w6 w6 ∧ TextsAt w6 u ((openRecs s).getD []) := by
      rcases hor with ⟨e1, _⟩ | ⟨_, q, u, e1, e2, e3⟩
      · exact absurd HE.out e1
      · exact ⟨q, u, e1, e2, e3⟩
    have H6 := Lib.hid (show Both w l b g m q w3.heap.size w3.heap.size u s [] v0 (.slice none 0 0) w6 w6 from ⟨HL5.out.later hB6, hrd, hts⟩)
    clear hor hrd hts hB6 CR5
    go_wp2_with fail
    refine (KS _ _ H6.out.log).mono ?_
    rintro e w' ⟨rfl, rfl⟩
    have H6d := Lib.hid (H6.out.later ((Below.refl _ w6).drew))
    have hu : ∃ a c, u = .slice a L.length c := by
      obtain ⟨a, c, e, _⟩ := H6.out.ts
      rw [HRecs.out.2] at e
      exact ⟨a, c, e⟩
    obtain ⟨ua, uc, rfl⟩ := hu
    have hcell := fun W (h : Both w l b g m q w3.heap.size w3.heap.size (.slice ua L.length uc) s [] v0 (.slice none 0 0) w6 W) => (show W.cell? ⟨q, 1, none⟩ = some (.int .i64 G) ∧ W.cell? ⟨q, 2, none⟩ = some (.slice ua L.length uc) from ⟨by have := RLO.c1 h.ref.obj; rw [HG.out] at this; exact this, RLO.c2 h.ref.obj⟩)
    have d0 := hcell _ H6d.out
    have HCell := Lib.hid hcell
    clear hcell KS
    go_wp2
    go_region_held3 (fun w' => w'.cell? ⟨q, 1, none⟩ = some (.int .i64 (G : Int)) ∧ w'.cell? ⟨q, 2, none⟩ = some (.slice ua L.length uc)) (first | exact d0 | exact d1 | exact d2 | exact d3 | exact d4 | exact d5)
      (first
        | (go_at_call 19; refine (CF _).mono ?_; rintro e w7 ⟨rfl, hB⟩; have H7 := Lib.hid (H6d.out.later hB); have d1 := HCell.out _ H7.out; clear hB)
        | (go_at_call 18; refine (KG _ _ H7.out.log).mono ?_; rintro e w' ⟨rfl, rfl⟩)
        | (go_at_call 16; refine (KK _ _ H7.out.log).mono ?_; rintro e w8 ⟨ra, rc, rfl, ho8, _, hB⟩; have H8 := Lib.hid (H7.out.later hB); have HO8 := Lib.hid ho8; have d2 := HCell.out _ H8.out; clear hB ho8)
        | (go_at_call 17; refine (rsame_any (texts_of_row HO8.out) (by have := H8.out.ts; rw [HRecs.out.2] at this; exact this) (by have := HFew.out; omega) (by have := HFew.out; omega)).mono ?_; rintro e w9 ⟨e9, hB⟩; rw [decide_eq_true rfl] at e9; subst e9; have H9 := Lib.hid (H8.out.later hB); have d3 := HCell.out _ H9.out; clear hB)
        | (go_at_call 24; refine (KM _ _ H9.out.log).mono ?_; rintro e w10 ⟨rfl, _, hB⟩; have H10 := Lib.hid (H9.out.later hB); have d4 := HCell.out _ H10.out; clear hB)
        | (go_at_call 25; refine (KR _ _ _ _ _ H10.out).mono ?_; rintro e w11 ⟨rfl, hB⟩; have H11 := Lib.hid (H10.out.later hB); have d5 := HCell.out _ H11.out; clear hB))
    all_goals (
      go_wp2
      go_ret
      exact ⟨rfl, H11.out.log.below⟩)
  · have hEb : (openE s != openE s) = false := by simp
    have HE := Lib.hid hE
    have KS := fun W (h : DiskAt b g m s W) => steps_any h
    rw [hmade] at KS
    generalize openE s = E at *
    clear hE
    go_wp2_with fail
    refine CO.mono ?_
    rintro e w5 ⟨a, rfl, hn5, hB5⟩
    obtain rfl : a = .pointer none := by
      rcases hn5 with ⟨e, _⟩ | ⟨_, e⟩
      · exact absurd e HE.out
      · exact e
    have H5 := Lib.hid (H4.out.below hB5)
    have HR5 := Lib.hid (HR4.out.below hB5)
    have HB5 := Lib.hid (HB4.out.trans (hB5.mono HB4.out.size))
    have CR5 := CR _ HR5.out
    clear hn5 hB5 CO CR
    go_wp2_with fail
    refine CR5.mono ?_
    rintro e w6 ⟨hor, hB6⟩
    obtain rfl : e = .returned (.tuple #[.pointer none, .int .i64 E]) := by
      rcases hor with ⟨_, e1⟩ | ⟨e1, _⟩
      · exact e1
      · exact absurd e1 HE.out
    have H6 := Lib.hid (H5.out.below hB6)
    have HB6 := Lib.hid (HB5.out.trans (hB6.mono HB5.out.size))
    clear hor hB6 CR5
    go_wp2_with fail
    refine (KS _ H6.out).mono ?_
    rintro e w' ⟨rfl, rfl⟩
    have HB6d := Lib.hid HB6.out.drew
    clear KS
    go_wp2
    refine wp_region_any (by kernel_rfl) ?_
    change wpAny _ _ _ _ _ _ _ (World.drew _)
    refine wpAny_ready (rs := [0]) (by kernel_rfl) (by simp) ?_
    refine AllReady.cons rfl (fun K hK => ?_) AllReady.nil
    go_simp
    go_at_call 19
    refine (CF _).mono ?_
    rintro e w7 ⟨rfl, hB⟩
    have HB7 := Lib.hid (HB6d.out.trans (hB.mono HB6d.out.size))
    clear hB
    go_wp2_with fail
    refine take_one 75 (i := 1) (v := .bool true) rfl rfl (by kernel_rfl) (by kernel_rfl) (by kernel_rfl) (fun _ _ _ h => h) (Or.inl ⟨by kernel_rfl, fun w => by (go_simp)⟩) ?_
    simp only [Act.put, List.setIfInBounds_toArray, List.set_cons_zero, List.set_cons_succ]
    refine take_one 76 (i := 2) (v := .pointer none) rfl rfl (by kernel_rfl) (by kernel_rfl) (by kernel_rfl) (fun _ _ _ h => h) (Or.inl ⟨by kernel_rfl, fun w => by (go_simp)⟩) ?_
    simp only [Act.put, List.setIfInBounds_toArray, List.set_cons_zero, List.set_cons_succ]
    refine take_one 77 (i := 3) (v := .bool true) rfl rfl (by kernel_rfl) (by kernel_rfl) (by kernel_rfl) (fun _ _ _ h => h) (Or.inl ⟨by kernel_rfl, fun w => by (go_simp)⟩) ?_
    simp only [Act.put, List.setIfInBounds_toArray, List.set_cons_zero, List.set_cons_succ]
    refine take_one 78 (i := 4) (v := .bool true) rfl rfl (by kernel_rfl) (by kernel_rfl) (by kernel_rfl) (fun _ _ _ h => h) (Or.inl ⟨by kernel_rfl, fun w => by (go_simp)⟩) ?_
    simp only [Act.put, List.setIfInBounds_toArray, List.set_cons_zero, List.set_cons_succ]
    refine take_one 79 (i := 5) (v := undef) rfl rfl (by kernel_rfl) (by kernel_rfl) (by kernel_rfl) (fun _ _ _ h => h) (Or.inr ⟨by kernel_rfl, rfl⟩) ?_
    simp only [Act.put, List.setIfInBounds_toArray, List.set_cons_zero, List.set_cons_succ]
    refine take_one 80 (i := 6) (v := undef) rfl rfl (by kernel_rfl) (by kernel_rfl) (by kernel_rfl) (fun _ _ _ h => h) (Or.inr ⟨by kernel_rfl, rfl⟩) ?_
    simp only [Act.put, List.setIfInBounds_toArray, List.set_cons_zero, List.set_cons_succ]
    refine take_one 81 (i := 7) (v := .bool true) rfl rfl (by kernel_rfl) (by kernel_rfl) (by kernel_rfl) (fun _ _ _ h => h) (Or.inl ⟨by kernel_rfl, fun w => by (go_simp)⟩) ?_
    simp only [Act.put, List.setIfInBounds_toArray, List.set_cons_zero, List.set_cons_succ]
    refine take_one 82 (i := 8) (v := .bool true) rfl rfl (by kernel_rfl) (by kernel_rfl) (by kernel_rfl) (fun _ _ _ h => h) (Or.inl ⟨by kernel_rfl, fun w => by (go_simp)⟩) ?_
    simp only [Act.put, List.setIfInBounds_toArray, List.set_cons_zero, List.set_cons_succ]
    refine take_one 83 (i := 9) (v := undef) rfl rfl (by kernel_rfl) (by kernel_rfl) (by kernel_rfl) (fun _ _ _ h => h) (Or.inr ⟨by kernel_rfl, rfl⟩) ?_
    simp only [Act.put, List.setIfInBounds_toArray, List.set_cons_zero, List.set_cons_succ]
    refine take_one 84 (i := 10) (v := undef) rfl rfl (by kernel_rfl) (by kernel_rfl) (by kernel_rfl) (fun _ _ _ h => h) (Or.inr ⟨by kernel_rfl, rfl⟩) ?_
    simp only [Act.put, List.setIfInBounds_toArray, List.set_cons_zero, List.set_cons_succ]
    refine take_one 85 (i := 11) (v := undef) rfl rfl (by kernel_rfl) (by kernel_rfl) (by kernel_rfl) (fun _ _ _ h => h) (Or.inr ⟨by kernel_rfl, rfl⟩) ?_
    simp only [Act.put, List.setIfInBounds_toArray, List.set_cons_zero, List.set_cons_succ]
    refine take_one 86 (i := 12) (v := undef) rfl rfl (by kernel_rfl) (by kernel_rfl) (by kernel_rfl) (fun _ _ _ h => h) (Or.inr ⟨by kernel_rfl, rfl⟩) ?_
    simp only [Act.put, List.setIfInBounds_toArray, List.set_cons_zero, List.set_cons_succ]
    refine take_one 87 (i := 13) (v := undef) rfl rfl (by kernel_rfl) (by kernel_rfl) (by kernel_rfl) (fun _ _ _ h => h) (Or.inr ⟨by kernel_rfl, rfl⟩) ?_
    simp only [Act.put, List.setIfInBounds_toArray, List.set_cons_zero, List.set_cons_succ]
    refine take_one 88 (i := 14) (v := undef) rfl rfl (by kernel_rfl) (by kernel_rfl) (by kernel_rfl) (fun _ _ _ h => h) (Or.inr ⟨by kernel_rfl, rfl⟩) ?_
    simp only [Act.put, List.setIfInBounds_toArray, List.set_cons_zero, List.set_cons_succ]
    refine take_one 89 (i := 15) (v := undef) rfl rfl (by kernel_rfl) (by kernel_rfl) (by kernel_rfl) (fun _ _ _ h => h) (Or.inr ⟨by kernel_rfl, rfl⟩) ?_
    simp only [Act.put, List.setIfInBounds_toArray, List.set_cons_zero, List.set_cons_succ]
    refine take_one 90 (i := 16) (v := undef) rfl rfl (by kernel_rfl) (by kernel_rfl) (by kernel_rfl) (fun _ _ _ h => h) (Or.inr ⟨by kernel_rfl, rfl⟩) ?_
    simp only [Act.put, List.setIfInBounds_toArray, List.set_cons_zero, List.set_cons_succ]
    refine take_one 91 (i := 17) (v := undef) rfl rfl (by kernel_rfl) (by kernel_rfl) (by kernel_rfl) (fun _ _ _ h => h) (Or.inr ⟨by kernel_rfl, rfl⟩) ?_
    simp only [Act.put, List.setIfInBounds_toArray, List.set_cons_zero, List.set_cons_succ]
    refine take_one 92 (i := 18) (v := undef) rfl rfl (by kernel_rfl) (by kernel_rfl) (by kernel_rfl) (fun _ _ _ h => h) (Or.inr ⟨by kernel_rfl, rfl⟩) ?_
    simp only [Act.put, List.setIfInBounds_toArray, List.set_cons_zero, List.set_cons_succ]
    refine take_one 93 (i := 19) (v := undef) rfl rfl (by kernel_rfl) (by kernel_rfl) (by kernel_rfl) (fun _ _ _ h => h) (Or.inr ⟨by kernel_rfl, rfl⟩) ?_
    simp only [Act.put, List.setIfInBounds_toArray, List.set_cons_zero, List.set_cons_succ]
    refine take_one 94 (i := 20) (v := undef) rfl rfl (by kernel_rfl) (by kernel_rfl) (by kernel_rfl) (fun _ _ _ h => h) (Or.inr ⟨by kernel_rfl, rfl⟩) ?_
    simp only [Act.put, List.setIfInBounds_toArray, List.set_cons_zero, List.set_cons_succ]
    refine take_one 95 (i := 21) (v := undef) rfl rfl (by kernel_rfl) (by kernel_rfl) (by kernel_rfl) (fun _ _ _ h => h) (Or.inr ⟨by kernel_rfl, rfl⟩) ?_
    simp only [Act.put, List.setIfInBounds_toArray, List.set_cons_zero, List.set_cons_succ]
    refine take_one 96 (i := 22) (v := undef) rfl rfl (by kernel_rfl) (by kernel_rfl) (by kernel_rfl) (fun _ _ _ h => h) (Or.inr ⟨by kernel_rfl, rfl⟩) ?_
    simp only [Act.put, List.setIfInBounds_toArray, List.set_cons_zero, List.set_cons_succ]
    refine take_one 97 (i := 23) (v := undef) rfl rfl (by kernel_rfl) (by kernel_rfl) (by kernel_rfl) (fun _ _ _ h => h) (Or.inr ⟨by kernel_rfl, rfl⟩) ?_
    simp only [Act.put, List.setIfInBounds_toArray, List.set_cons_zero, List.set_cons_succ]
    refine take_one 98 (i := 24) (v := undef) rfl rfl (by kernel_rfl) (by kernel_rfl) (by kernel_rfl) (fun _ _ _ h => h) (Or.inr ⟨by kernel_rfl, rfl⟩) ?_
    simp only [Act.put, List.setIfInBounds_toArray, List.set_cons_zero, List.set_cons_succ]
    refine take_one 99 (i := 25) (v := undef) rfl rfl (by kernel_rfl) (by kernel_rfl) (by kernel_rfl) (fun _ _ _ h => h) (Or.inr ⟨by kernel_rfl, rfl⟩) ?_
    simp only [Act.put, List.setIfInBounds_toArray, List.set_cons_zero, List.set_cons_succ]
    refine take_one 100 (i := 26) (v := undef) rfl rfl (by kernel_rfl) (by kernel_rfl) (by kernel_rfl) (fun _ _ _ h => h) (Or.inr ⟨by kernel_rfl, rfl⟩) ?_
    simp only [Act.put, List.setIfInBounds_toArray, List.set_cons_zero, List.set_cons_succ]
    refine take_one 101 (i := 27) (v := undef) rfl rfl (by kernel_rfl) (by kernel_rfl) (by kernel_rfl) (fun _ _ _ h => h) (Or.inr ⟨by kernel_rfl, rfl⟩) ?_
    simp only [Act.put, List.setIfInBounds_toArray, List.set_cons_zero, List.set_cons_succ]
    refine take_one 102 (i := 28) (v := undef) rfl rfl (by kernel_rfl) (by kernel_rfl) (by kernel_rfl) (fun _ _ _ h => h) (Or.inr ⟨by kernel_rfl, rfl⟩) ?_
    simp only [Act.put, List.setIfInBounds_toArray, List.set_cons_zero, List.set_cons_succ]
    refine take_one 103 (i := 29) (v := undef) rfl rfl (by kernel_rfl) (by kernel_rfl) (by kernel_rfl) (fun _ _ _ h => h) (Or.inr ⟨by kernel_rfl, rfl⟩) ?_
    simp only [Act.put, List.setIfInBounds_toArray, List.set_cons_zero, List.set_cons_succ]
    refine take_one 104 (i := 30) (v := undef) rfl rfl (by kernel_rfl) (by kernel_rfl) (by kernel_rfl) (fun _ _ _ h => h) (Or.inr ⟨by kernel_rfl, rfl⟩) ?_
    simp only [Act.put, List.setIfInBounds_toArray, List.set_cons_zero, List.set_cons_succ]
    refine take_one 105 (i := 31) (v := undef) rfl rfl (by kernel_rfl) (by kernel_rfl) (by kernel_rfl) (fun _ _ _ h => h) (Or.inr ⟨by kernel_rfl, rfl⟩) ?_
    simp only [Act.put, List.setIfInBounds_toArray, List.set_cons_zero, List.set_cons_succ]
    refine take_one 106 (i := 32) (v := .bool true) rfl rfl (by kernel_rfl) (by kernel_rfl) (by kernel_rfl) (fun _ _ _ h => h) (Or.inl ⟨by kernel_rfl, fun w => by (go_simp)⟩) ?_
    simp only [Act.put, List.setIfInBounds_toArray, List.set_cons_zero, List.set_cons_succ]
    refine take_one 107 (i := 33) (v := .bool true) rfl rfl (by kernel_rfl) (by kernel_rfl) (by kernel_rfl) (fun _ _ _ h => h) (Or.inl ⟨by kernel_rfl, fun w => by (go_simp)⟩) ?_
    simp only [Act.put, List.setIfInBounds_toArray, List.set_cons_zero, List.set_cons_succ]
    refine take_one 2 (i := 34) (v := .bool true) rfl rfl (by kernel_rfl) (by kernel_rfl) (by kernel_rfl) (fun _ _ _ h => h) (Or.inl ⟨by kernel_rfl, fun w => by (go_simp)⟩) ?_
    simp only [Act.put, List.setIfInBounds_toArray, List.set_cons_zero, List.set_cons_succ]
    refine wpAny_done (by kernel_rfl) ?_ _
    go_wp2
    go_ret
    exact ⟨rfl, HB7.out⟩
set_option maxRecDepth 100000 in
/-- WHAT THE WALK GIVES, for every argument that can be read. -/
theorem contract (H : Type) (enc : TypeId × Value → H) (W : World) (base : Nat) (args : Array Value) (ds gs : List (DataW H)) (before : List MemPlace)
    (hval : ∀ (j : Nat) t v, Try.f4.params[j]? = some t → args[j]? = some v → Value.okWide Try.prog W .any base t v)
    (hW : DataW.Whole enc Try.prog Try.f4.params.toList Rows.logReadsSpec.vars false W args.toList ds gs before)
    (hreach : (DataW.weightsEach Try.prog (Try.f4.params.toList) ds).all (· ≤ reachBytes) = true) :
    Calls Try.prog 4 args W fun e W' => ∃ v, e = .returned v ∧ Rows.logReadsSpec.post enc Try.prog Try.f4 false true false false W args v W' := by
  have hW' := hW
  obtain ⟨p, q, hA0, hV, rfl, hfz, hnd⟩ := hW
  have hA : DataW.TrodAll enc Try.prog W 0 (fun _ => true) true Try.f4.params.toList args.toList ds p := hA0
  rw [Try.params4] at hA hval hreach
  obtain ⟨v0, d0, rfl, rfl, h0⟩ := trodAll_one hA
  obtain ⟨rfl, rfl⟩ := trodVars_none hV
  obtain ⟨s0, rfl, rfl, rfl, ws0⟩ := Go.ChangeMaps.open_string Try.underlying9 (hval 0 9 v0 rfl rfl) h0
  have r0 := reach_size (sized_string hreach (j := 0) rfl rfl)
  clear hA0 hval
  simp only [List.append_nil] at hW'
  refine (walk s0 W r0).mono fun e W' ⟨he, hB⟩ => ?_
  subst he
  exact ⟨_, rfl, post_of_below (pa := []) (pv := []) hW' (fun _ _ _ => trodAll_mk1 (shut_bool Try.underlying4 _)) (fun sp hsp => trodAll_mk1 (Go.ChangeMaps.shut_string Try.underlying9 ws0)) (fun _ _ => rfl) (by simp) hB (ok_one (by kernel_rfl) rfl (okWide_bool_mk Try.underlying4 _))⟩

theorem reads (os : Os) {H : Type} (enc : TypeId × Value → H) : ∃ places, DataW.whole enc Try.prog ((laidWorld os).forCall (fun _ _ => 0) ⟨#[], #[.string ⟨#[]⟩], []⟩).memory Try.f4.params.toList Rows.logReadsSpec.vars false (#[.string ⟨#[]⟩] : Array Value).toList 8 = some ([.lit (.string [])], [], places) :=
  ⟨[], by kernel_rfl⟩

set_option maxRecDepth 100000 in
theorem lifted (os : Os) (started : os.Started) (H : Type) (enc : TypeId × Value → H) (F : Stop.Interp) :
    ReturnsInHanded {} Try.checked os 4 .any ((OpenSpec.ofChange Rows.logReadsSpec).preRow enc Try.prog Try.f4 Rows.logReadsRow.domain false Rows.logReadsRow.laid) (((OpenSpec.ofChange Rows.logReadsSpec).at F).post enc Try.prog Try.f4 false true false false) := by
  obtain ⟨places, hx⟩ := reads os enc
  refine returnsInHanded_of_row (C := Try.checked) (s := OpenSpec.ofChange Rows.logReadsSpec) own started (by kernel_rfl) Try.func4
    (witness_row_at (enc := enc) (C := Try.checked) false (laidWorld os) #[.string ⟨#[]⟩] rfl (by kernel_rfl) (by kernel_rfl) (by kernel_rfl)
      (OpenSpec.preRow_of_cond 8 hx (by kernel_rfl) (fun k hk => by cases hk) (by kernel_rfl) (laid_met os _))) ?_
  intro W base args ds gs before hval hW _ hcond hreach hL _ _
  obtain ⟨p, q, hA0, hV, hpq, hfz, hnd⟩ := id hW
  obtain ⟨rfl, _⟩ := trodVars_none hV
  rw [List.append_nil] at hreach
  exact contract H enc W base args ds [] before hval hW hreach

theorem said : Rows.LogReadsSaid :=
  OpenClaim.holds_of_cond 4 Try.f4 rfl rfl rfl rfl rfl rfl rfl ⟨rfl, rfl, rfl, rfl, rfl⟩ rfl rfl rfl rfl rfl (by kernel_rfl) Try.func4 (by kernel_rfl)
    (of_decide_eq_true (by kernel_rfl)) (by unfold Func.isWrapper; first | (rw [if_pos (by decide +kernel)]; kernel_rfl) | (rw [if_neg (by decide +kernel)]; exact ⟨rfl, rfl⟩))
    (fun os started H enc _ F => by rw [OpenClaim.pre_eq_preRow]; exact lifted os started H enc F)



end Go.Proofs.Ythnpdiopaeommaa.reads

