/-
  Whatever is sent, taken, closed and moved among three pipes, in any order, each answer, and how many things each has, is as the document says: for every list of numbers for the rooms, and every list of calls, of which the first three hundred are made.
  Conditions: none besides the row's own.
-/
import Derived.Test.YtmlemgifejefiaaPipE
import Derived.Test.YtmlemgifejefiaaPipO
import Derived.IntWalk
import Derived.Deep.RegionHeld3
import Derived.Deep.CutBlock
namespace Go.Proofs.Ytmlemgifejefiaa.does
open Go.ChangeShapes Go.WideShapes Go.ChangeAt Go.RowKit Go

def ptrs (n : Nat) (P : Nat → Nat) : List Value := (List.range n).map fun i => ptr (P i)
theorem ptrs_put (n : Nat) (P : Nat → Nat) (p : Nat) : ptrs (n + 1) (put P n p) = ptrs n P ++ [ptr p] := by
  unfold ptrs
  rw [List.range_succ, List.map_append]
  congr 1
  · refine List.map_congr_left fun i hi => ?_
    rw [put_other _ _ (by have := List.mem_range.1 hi; omega)]
  · simp [put_same]
theorem ptrs_at {n : Nat} {P : Nat → Nat} {a : Nat} (h : a < n) : (ptrs n P)[a]? = some (ptr (P a)) := by
  unfold ptrs
  simp [h]
theorem infoPP : (Try.prog.info? 33).map (fun i => (i.zero, i.size, i.bytes)) = some (some (.pointer none), 1, 8) := by kernel_rfl
theorem infoRP : (Try.prog.info? 36).map (fun i => (i.zero, i.size, i.bytes)) = some (some (.pointer none), 1, 8) := by kernel_rfl

def opObj (K A B X : Int) : Obj := .cells #[.int .i64 K, .int .i64 A, .int .i64 B, .int .i64 X] 40 (0, 0)
theorem opObj.c0 {w : World} {b : Nat} {K A B X : Int} (h : w.heap[b]? = some (opObj K A B X)) : w.cell? ⟨b, 0, none⟩ = some (.int .i64 K) := by simp [World.cell?, h, opObj]
theorem opObj.c1 {w : World} {b : Nat} {K A B X : Int} (h : w.heap[b]? = some (opObj K A B X)) : w.cell? ⟨b, 1, none⟩ = some (.int .i64 A) := by simp [World.cell?, h, opObj]
theorem opObj.c2 {w : World} {b : Nat} {K A B X : Int} (h : w.heap[b]? = some (opObj K A B X)) : w.cell? ⟨b, 2, none⟩ = some (.int .i64 B) := by simp [World.cell?, h, opObj]
theorem opObj.c3 {w : World} {b : Nat} {K A B X : Int} (h : w.heap[b]? = some (opObj K A B X)) : w.cell? ⟨b, 3, none⟩ = some (.int .i64 X) := by simp [World.cell?, h, opObj]
theorem mod3 (A : Int) : ∃ z : Nat, bits .and .i64 A 65535 = (z : Int) ∧ ∃ a : Nat, (z : Int) % 3 = (a : Int) ∧ (z : Int).tmod 3 = (a : Int) ∧ a < 3 := by
  obtain ⟨z, h1, h2⟩ := and_to 65535 (by omega) A
  exact ⟨z, h1, z % 3, by omega, by rw [Int.tmod_eq_emod_of_nonneg (by omega)]; omega, Nat.mod_lt _ (by omega)⟩

theorem row_at {w : World} {base g cap n a : Nat} {e : TypeId} {P : Nat → Nat} (h : w.ownsRow base e 1 (.slice (some ⟨g, 0, none⟩) n cap) n (ptrs n P)) (ha : a < n) : w.cell? ⟨g, a, none⟩ = some (.pointer (some ⟨P a, 0, none⟩)) :=
  (h.cellAt a (by omega)).trans (ptrs_at ha)

/-- all that the law holds: the pipes, the references, the two lists of them, the call at hand -/
structure All (w0 : World) (P C M room : Nat → Nat) (cl cl' : Nat → Bool) (L L' : Nat → List Int) (gp cp gm cm q : Nat) (K A B X : Int) (w : World) : Prop where
  core : Core w0 3 P C M room cl cl' L L' w
  rp : w.ownsRow w0.heap.size 33 1 (.slice (some ⟨gp, 0, none⟩) 3 cp) 3 (ptrs 3 P)
  rm : w.ownsRow w0.heap.size 36 1 (.slice (some ⟨gm, 0, none⟩) 3 cm) 3 (ptrs 3 M)
  op : w.heap[q]? = some (opObj K A B X)
section
variable {w w' w0 : World} {a b gp cp gm cm q : Nat} {P C M room : Nat → Nat} {cl cl' : Nat → Bool} {L L' : Nat → List Int} {K A B X : Int}
theorem All.turn {F : Nat → Prop} {dl dl' : Nat → Bool} {N N' : Nat → List Int} (h : All w0 P C M room cl cl' L L' gp cp gm cm q K A B X w) (hc : Core w0 3 P C M room dl dl' N N' w') (hs : Stir F w w') (sp : Sp F w) : All w0 P C M room dl dl' N N' gp cp gm cm q K A B X w' :=
  ⟨hc, row_stay hs sp h.rp rfl, row_stay hs sp h.rm rfl, stay_plain hs sp h.op rfl⟩
theorem All.later (h : All w0 P C M room cl cl' L L' gp cp gm cm q K A B X w) (k : Below w.heap.size w w') : All w0 P C M room cl cl' L L' gp cp gm cm q K A B X w' :=
  h.turn (h.core.later k) (Stir.of_below (F := fun _ => False) k) sp_none
theorem All.pt (h : All w0 P C M room cl cl' L L' gp cp gm cm q K A B X w) (ha : a < 3) {c1 : Bool} {L1 : List Int} (hp : PI.PipeAt (P a) (C a) (room a) c1 L1 w') (hs : Stir (fun k => k = P a ∨ k = C a) w w') : All w0 P C M room (put cl a c1) cl' (put L a L1) L' gp cp gm cm q K A B X w' :=
  h.turn (h.core.pturn ha hp hs) hs (h.core.pipe_sp ha)
theorem All.rt (h : All w0 P C M room cl cl' L L' gp cp gm cm q K A B X w) (ha : a < 3) {c1 : Bool} {L1 : List Int} (hp : RefAt w0.heap.size (M a) (room a) c1 L1 w') (hs : Stir (fun k => k = M a) w w') : All w0 P C M room cl (put cl' a c1) L (put L' a L1) gp cp gm cm q K A B X w' :=
  h.turn (h.core.rturn ha hp hs) hs (h.core.ref_sp ha)
theorem All.pt2 (h : All w0 P C M room cl cl' L L' gp cp gm cm q K A B X w) (ha : a < 3) (hb : b < 3) (hab : a ≠ b) {L1 L2 : List Int} (hp : PI.PipeAt (P a) (C a) (room a) (cl a) L1 w') (hq : PI.PipeAt (P b) (C b) (room b) (cl b) L2 w') (hs : Stir (fun k => (k = P a ∨ k = C a) ∨ (k = P b ∨ k = C b)) w w') :
    All w0 P C M room cl cl' (put (put L a L1) b L2) L' gp cp gm cm q K A B X w' :=
  h.turn (h.core.pturn2 ha hb hab hp hq hs) hs ((h.core.pipe_sp ha).or (h.core.pipe_sp hb))
theorem All.rt2 (h : All w0 P C M room cl cl' L L' gp cp gm cm q K A B X w) (ha : a < 3) (hb : b < 3) (hab : a ≠ b) {L1 L2 : List Int} (hp : RefAt w0.heap.size (M a) (room a) (cl' a) L1 w') (hq : RefAt w0.heap.size (M b) (room b) (cl' b) L2 w') (hs : Stir (fun k => k = M a ∨ k = M b) w w') :
    All w0 P C M room cl cl' L (put (put L' a L1) b L2) gp cp gm cm q K A B X w' :=
  h.turn (h.core.rturn2 ha hb hab hp hq hs) hs ((h.core.ref_sp ha).or (h.core.ref_sp hb))
theorem All.small (h : All w0 P C M room cl cl' L L' gp cp gm cm q K A B X w) (ha : a < 3) : room a ≤ 4096 ∧ (L a).length ≤ 4096 := by
  have h1 := (h.core.pipe a ha).small
  have h2 := (h.core.pipe a ha).fits
  exact ⟨h1, by omega⟩
end

set_option maxRecDepth 100000 in
set_option maxHeartbeats 16000000 in
theorem walk (va : Value) (za : List Int) (vb : Value) (script : List (Int × Int × Int × Int)) (w : World) (hOa : IntsAt w va za) (hza : za.length ≤ 140737488351232 ∧ ∀ z ∈ za, IntOk z)
    (hOb : OpsAt w vb script) (hz : OpsOk script) :
    Calls Try.prog 4 #[va, vb] w fun r w' => r = .returned (.bool true) ∧ Below w.heap.size w w' := by
  obtain ⟨aa, capa, rfl, ha⟩ := hOa
  obtain ⟨ab, capb, rfl, hb⟩ := hOb
  obtain ⟨hz1, hz2⟩ := hz
  have HA := Lib.hid ha
  have HB := Lib.hid hb
  have HZ := Lib.hid hz2
  have hza1 := hza.1
  obtain ⟨ip, hip, hip0, hip1, hip2⟩ := info_parts infoPP
  obtain ⟨ir, hir, hir0, hir1, hir2⟩ := info_parts infoRP
  clear ha hb hz2 hza
  go_enter Try.func4, Try.ntmps4
  go_wp2_with fail
  go_loopw [5, 6, 7] (fun u v i wr => ∃ (n : Nat) (P C M room : Nat → Nat), n ≤ 3 ∧ i = .int .i64 n ∧ Core w n P C M room (fun _ => false) (fun _ => false) (fun _ => []) (fun _ => []) wr ∧
    wr.ownsRow w.heap.size 33 1 u n (ptrs n P) ∧ wr.ownsRow w.heap.size 36 1 v n (ptrs n M)) (fun _ _ i _ => 3 - (intOf i).toNat)
  case atStart => exact ⟨0, fun _ => 0, fun _ => 0, fun _ => 0, fun _ => 0, Nat.zero_le _, rfl, ⟨fun i hi => absurd hi (Nat.not_lt_zero _), fun i hi => absurd hi (Nat.not_lt_zero _), fun i j hi => absurd hi (Nat.not_lt_zero _), fun i hi => absurd hi (Nat.not_lt_zero _), ((Below.refl _ w).alloc (Nat.le_refl _) _).alloc (by simp) _⟩,
    (World.ownsRow_made w #[] 0 (Nat.le_refl _) (by decide) rfl).alloc _, by have := World.ownsRow_made (base := w.heap.size) (e := 36) (size := 1) (w.alloc (.cells #[] 33)) #[] 0 (by simp) (by decide) rfl; rw [World.size_alloc] at this; exact this⟩
  case round =>
    obtain ⟨n, P, C, M, room, hn, rfl, hc, hp, hm⟩ := hrel
    have HC := Lib.hid hc
    have HP := Lib.hid hp
    have HM := Lib.hid hm
    by_cases hlt : n < 3
    · have hni : (n : Int) < 3 := by omega
      by_cases hl : n < za.length
      · have hli : (n : Int) < (za.length : Int) := by omega
        obtain ⟨b', off', e, hb', hbc'⟩ := HA.out (by intro e; rw [e] at hl; simp at hl)
        have hcell := (hc.below.cell (p := ⟨b', off' + n, none⟩) hb').trans (hbc' n hl)
        cases e
        clear hc hp hm hbc'
        generalize za[n]'(hl) = z at *
        obtain ⟨y, hy1, hy2, hy3⟩ : ∃ y : Int, (if (4096 : Int) < z then (4096 : Int) else z) = y ∧ min z 4096 = y ∧ y ≤ 4096 := by
          by_cases h : (4096 : Int) < z
          · exact ⟨4096, if_pos h, by omega, by omega⟩
          · exact ⟨z, if_neg h, by omega, by omega⟩
        obtain ⟨R, hR1, hR2, hR3, hR4, hR5⟩ : ∃ R : Nat, (if y ≤ 1 then (1 : Int) else y) = R ∧ max 1 y = R ∧ (if (1 : Int) < y then y else 1) = R ∧ 1 ≤ R ∧ R ≤ 4096 := by
          by_cases h : y ≤ 1
          · exact ⟨1, if_pos h, by omega, by rw [if_neg (by omega)]; rfl, by omega, by omega⟩
          · exact ⟨y.toNat, by rw [if_neg h]; omega, by omega, by rw [if_pos (by omega)]; omega, by omega, by omega⟩
        have HR := Lib.hid (And.intro hR4 hR5)
        clear hy3 hR4 hR5 hl
        go_wp2_with fail
        clear hy1 hy2 hR1 hR2 hR3 hcell
        refine (PI.new_any R HR.out.1 HR.out.2 _).mono ?_
        rintro e w1 ⟨p, c, rfl, hp1, lp, lc, hB⟩
        have hC1 := HC.out.later hB
        have hP1 := ownsRow_of_block HP.out (fun k hk => hB.block k (HP.out.lt k hk).2)
        have hM1 := ownsRow_of_block HM.out (fun k hk => hB.block k (HM.out.lt k hk).2)
        have hnew : ∀ i, i < n → P i ≠ p ∧ C i ≠ c ∧ M i < w1.heap.size := fun i hi => ⟨by have := (HC.out.pipe i hi).lt_p; omega, by have := (HC.out.pipe i hi).lt_c; omega, by have := (HC.out.ref i hi).lt; have := hB.size; omega⟩
        have hlow := HC.out.below.size
        have HNEW := Lib.hid hnew
        have HLOW := Lib.hid (show w.heap.size ≤ p ∧ w.heap.size ≤ c by omega)
        have hs1 : w.heap.size ≤ w1.heap.size := by have := hB.size; omega
        have HC1 := Lib.hid hC1
        have HP1 := Lib.hid hP1
        have HM1 := Lib.hid hM1
        have HI1 := Lib.hid hp1
        clear hp1 hC1 hP1 hM1 hB hnew hlow lp lc HC HP HM
        go_wp2_with (at_builtin
                     first
                     | ((refine wpList_append_own _ rfl _ _ 31 rfl w.heap.size 33 ip (.pointer none) 1 8 Try.underlying31 hip hip0 hip1 hip2 rfl (by decide) _ n _ rfl (HP1.out.alloc _) ⟨w1.heap.size, 0, none⟩ 1 1 [.pointer (some ⟨p, 0, none⟩)] rfl rfl (cell_one_new _ _ _) (by simp [Value.oneCell']) (by unfold maxLen; omega) (by omega) (by simp; omega) ?_)
                        intro v2 w2 hown hgrow _
                        have bl := (Below.refl _ w1).alloc (Nat.le_refl _) (.cells #[.pointer (some ⟨p, 0, none⟩)] 33)
                        have rp := HP1.out.alloc (.cells #[.pointer (some ⟨p, 0, none⟩)] 33)
                        have HC2 := Lib.hid ((HC1.out.later bl).grow hgrow (row_block rp) (fun b hb => (rp.lt b hb).1) (Or.inl rfl))
                        have HI2 := Lib.hid (pipe_grow (HI1.out.later bl) hgrow (row_block rp) (Or.inl rfl))
                        have HM2 := Lib.hid (row_grow (HM1.out.alloc (.cells #[.pointer (some ⟨p, 0, none⟩)] 33)) rp hgrow (by decide))
                        have HP2 := Lib.hid hown
                        have hs2 : w1.heap.size ≤ w2.heap.size := Nat.le_trans bl.size hgrow.size
                        have HN2 := Lib.hid (show ∀ (j : Nat) (u : Value), [Value.pointer (some ⟨w2.heap.size, 0, none⟩)][j]? = some u → ((w2.alloc (RObj R (.slice none 0 0) false)).alloc (.cells #[.pointer (some ⟨w2.heap.size, 0, none⟩)] 36)).cell? ((⟨w2.heap.size + 1, 0, none⟩ : Addr).add j) = some u by
                          have := cell_one_new (w2.alloc (RObj R (.slice none 0 0) false)) (.pointer (some ⟨w2.heap.size, 0, none⟩)) 36
                          rw [World.size_alloc] at this
                          exact this)
                        clear hown hgrow bl rp HC1 HP1 HM1 HI1)
                     | ((refine wpList_append_own _ rfl _ _ 32 rfl w.heap.size 36 ir (.pointer none) 1 8 Try.underlying32 hir hir0 hir1 hir2 rfl (by decide) _ n _ rfl ((HM2.out.alloc _).alloc _) ⟨w2.heap.size + 1, 0, none⟩ 1 1 [.pointer (some ⟨w2.heap.size, 0, none⟩)] rfl rfl HN2.out (by simp [Value.oneCell']) (by unfold maxLen; omega) (by omega) (by simp; omega) ?_)
                        intro v3 w3 hown hgrow _
                        have b1 := (Below.refl _ w2).alloc (Nat.le_refl _) (RObj R (.slice none 0 0) false)
                        have b2 := b1.alloc (by simp) (.cells #[.pointer (some ⟨w2.heap.size, 0, none⟩)] 36)
                        have rm := (HM2.out.alloc (RObj R (.slice none 0 0) false)).alloc (.cells #[.pointer (some ⟨w2.heap.size, 0, none⟩)] 36)
                        have rp := (HP2.out.alloc (RObj R (.slice none 0 0) false)).alloc (.cells #[.pointer (some ⟨w2.heap.size, 0, none⟩)] 36)
                        have hC3 := (HC2.out.later b2).grow hgrow (row_block rm) (fun b hb => (rm.lt b hb).1) (Or.inr rfl)
                        have hI3 := pipe_grow (HI2.out.later b2) hgrow (row_block rm) (Or.inr rfl)
                        have hR0 : RefAt w.heap.size w2.heap.size R false [] (w2.alloc (RObj R (.slice none 0 0) false)) := ⟨⟨.slice none 0 0, heap_alloc_new w2 _, World.ownsRow_nil _ _ _ _⟩, by omega⟩
                        have hR3 := ref_grow (hR0.later ((Below.refl _ _).alloc (Nat.le_refl _) (.cells #[.pointer (some ⟨w2.heap.size, 0, none⟩)] 36))) hgrow (row_block rm) (Or.inr rfl)
                        have HP3 := Lib.hid (row_grow rp rm hgrow (by decide))
                        have HM3 := Lib.hid hown
                        have HC3 := Lib.hid (hC3.add hI3 hR3 HLOW.out.1 HLOW.out.2 (fun i hi => ⟨(HNEW.out i hi).1, (HNEW.out i hi).2.1, by have := (HNEW.out i hi).2.2; omega⟩))
                        clear hown hgrow b1 b2 rm rp hC3 hI3 hR0 hR3 HC2 HI2 HP2 HM2 HN2))
        go_roundw
        case rel => exact ⟨n + 1, _, _, _, _, hlt, by go_num, by simpa only [put_const] using HC3.out, by rw [ptrs_put]; exact HP3.out, by rw [ptrs_put]; exact HM3.out⟩
        case measure => simp [intOf]; omega
      · have hli : ¬ (n : Int) < (za.length : Int) := by omega
        obtain ⟨R, hR⟩ : ∃ R : Nat, R = 2 := ⟨_, rfl⟩
        have HR := Lib.hid (show 1 ≤ R ∧ R ≤ 4096 by omega)
        clear hc hp hm
        go_wp2_with fail
        rw [show (2 : Int) = (R : Int) by omega]
        clear hR
        refine (PI.new_any R HR.out.1 HR.out.2 _).mono ?_
        rintro e w1 ⟨p, c, rfl, hp1, lp, lc, hB⟩
        have hC1 := HC.out.later hB
        have hP1 := ownsRow_of_block HP.out (fun k hk => hB.block k (HP.out.lt k hk).2)
        have hM1 := ownsRow_of_block HM.out (fun k hk => hB.block k (HM.out.lt k hk).2)
        have hnew : ∀ i, i < n → P i ≠ p ∧ C i ≠ c ∧ M i < w1.heap.size := fun i hi => ⟨by have := (HC.out.pipe i hi).lt_p; omega, by have := (HC.out.pipe i hi).lt_c; omega, by have := (HC.out.ref i hi).lt; have := hB.size; omega⟩
        have hlow := HC.out.below.size
        have HNEW := Lib.hid hnew
        have HLOW := Lib.hid (show w.heap.size ≤ p ∧ w.heap.size ≤ c by omega)
        have hs1 : w.heap.size ≤ w1.heap.size := by have := hB.size; omega
        have HC1 := Lib.hid hC1
        have HP1 := Lib.hid hP1
        have HM1 := Lib.hid hM1
        have HI1 := Lib.hid hp1
        clear hp1 hC1 hP1 hM1 hB hnew hlow lp lc HC HP HM
        go_wp2_with (at_builtin
                     first
                     | ((refine wpList_append_own _ rfl _ _ 31 rfl w.heap.size 33 ip (.pointer none) 1 8 Try.underlying31 hip hip0 hip1 hip2 rfl (by decide) _ n _ rfl (HP1.out.alloc _) ⟨w1.heap.size, 0, none⟩ 1 1 [.pointer (some ⟨p, 0, none⟩)] rfl rfl (cell_one_new _ _ _) (by simp [Value.oneCell']) (by unfold maxLen; omega) (by omega) (by simp; omega) ?_)
                        intro v2 w2 hown hgrow _
                        have bl := (Below.refl _ w1).alloc (Nat.le_refl _) (.cells #[.pointer (some ⟨p, 0, none⟩)] 33)
                        have rp := HP1.out.alloc (.cells #[.pointer (some ⟨p, 0, none⟩)] 33)
                        have HC2 := Lib.hid ((HC1.out.later bl).grow hgrow (row_block rp) (fun b hb => (rp.lt b hb).1) (Or.inl rfl))
                        have HI2 := Lib.hid (pipe_grow (HI1.out.later bl) hgrow (row_block rp) (Or.inl rfl))
                        have HM2 := Lib.hid (row_grow (HM1.out.alloc (.cells #[.pointer (some ⟨p, 0, none⟩)] 33)) rp hgrow (by decide))
                        have HP2 := Lib.hid hown
                        have hs2 : w1.heap.size ≤ w2.heap.size := Nat.le_trans bl.size hgrow.size
                        have HN2 := Lib.hid (show ∀ (j : Nat) (u : Value), [Value.pointer (some ⟨w2.heap.size, 0, none⟩)][j]? = some u → ((w2.alloc (RObj R (.slice none 0 0) false)).alloc (.cells #[.pointer (some ⟨w2.heap.size, 0, none⟩)] 36)).cell? ((⟨w2.heap.size + 1, 0, none⟩ : Addr).add j) = some u by
                          have := cell_one_new (w2.alloc (RObj R (.slice none 0 0) false)) (.pointer (some ⟨w2.heap.size, 0, none⟩)) 36
                          rw [World.size_alloc] at this
                          exact this)
                        clear hown hgrow bl rp HC1 HP1 HM1 HI1)
                     | ((refine wpList_append_own _ rfl _ _ 32 rfl w.heap.size 36 ir (.pointer none) 1 8 Try.underlying32 hir hir0 hir1 hir2 rfl (by decide) _ n _ rfl ((HM2.out.alloc _).alloc _) ⟨w2.heap.size + 1, 0, none⟩ 1 1 [.pointer (some ⟨w2.heap.size, 0, none⟩)] rfl rfl HN2.out (by simp [Value.oneCell']) (by unfold maxLen; omega) (by omega) (by simp; omega) ?_)
                        intro v3 w3 hown hgrow _
                        have b1 := (Below.refl _ w2).alloc (Nat.le_refl _) (RObj R (.slice none 0 0) false)
                        have b2 := b1.alloc (by simp) (.cells #[.pointer (some ⟨w2.heap.size, 0, none⟩)] 36)
                        have rm := (HM2.out.alloc (RObj R (.slice none 0 0) false)).alloc (.cells #[.pointer (some ⟨w2.heap.size, 0, none⟩)] 36)
                        have rp := (HP2.out.alloc (RObj R (.slice none 0 0) false)).alloc (.cells #[.pointer (some ⟨w2.heap.size, 0, none⟩)] 36)
                        have hC3 := (HC2.out.later b2).grow hgrow (row_block rm) (fun b hb => (rm.lt b hb).1) (Or.inr rfl)
                        have hI3 := pipe_grow (HI2.out.later b2) hgrow (row_block rm) (Or.inr rfl)
                        have hR0 : RefAt w.heap.size w2.heap.size R false [] (w2.alloc (RObj R (.slice none 0 0) false)) := ⟨⟨.slice none 0 0, heap_alloc_new w2 _, World.ownsRow_nil _ _ _ _⟩, by omega⟩
                        have hR3 := ref_grow (hR0.later ((Below.refl _ _).alloc (Nat.le_refl _) (.cells #[.pointer (some ⟨w2.heap.size, 0, none⟩)] 36))) hgrow (row_block rm) (Or.inr rfl)
                        have HP3 := Lib.hid (row_grow rp rm hgrow (by decide))
                        have HM3 := Lib.hid hown
                        have HC3 := Lib.hid (hC3.add hI3 hR3 HLOW.out.1 HLOW.out.2 (fun i hi => ⟨(HNEW.out i hi).1, (HNEW.out i hi).2.1, by have := (HNEW.out i hi).2.2; omega⟩))
                        clear hown hgrow b1 b2 rm rp hC3 hI3 hR0 hR3 HC2 HI2 HP2 HM2 HN2))
        go_roundw
        case rel => exact ⟨n + 1, _, _, _, _, hlt, by go_num, by simpa only [put_const] using HC3.out, by rw [ptrs_put]; exact HP3.out, by rw [ptrs_put]; exact HM3.out⟩
        case measure => simp [intOf]; omega
    · obtain rfl : n = 3 := by omega
      obtain ⟨gp, cp, rfl, -, -⟩ := hp.form (by omega)
      obtain ⟨gm, cm, rfl, -, -⟩ := hm.form (by omega)
      clear hc hp hm
      go_wp2_with fail
      clear hip hip0 hip1 hip2 hir hir0 hir1 hir2 hza1
      go_loopw [11] (fun i wr => ∃ (j : Nat) (cl : Nat → Bool) (L : Nat → List Int), j ≤ script.length ∧ j ≤ 300 ∧ i = .int .i64 j ∧ Core w 3 P C M room cl cl L L wr ∧
        wr.ownsRow w.heap.size 33 1 (.slice (some ⟨gp, 0, none⟩) 3 cp) 3 (ptrs 3 P) ∧ wr.ownsRow w.heap.size 36 1 (.slice (some ⟨gm, 0, none⟩) 3 cm) 3 (ptrs 3 M)) (fun i _ => 300 - (intOf i).toNat)
      case atStart => exact ⟨0, _, _, Nat.zero_le _, Nat.zero_le _, rfl, HC.out, HP.out, HM.out⟩
      case round =>
        clear HC HP HM
        obtain ⟨j, cl, L, hj, hj3, rfl, hc, hp, hm⟩ := hrel
        obtain ⟨wr, rfl⟩ : ∃ w' : World, w' = wr := ⟨_, rfl⟩
        by_cases hlt : j < script.length ∧ j < 300
        · obtain ⟨hlt, hlt3⟩ := hlt
          obtain ⟨b, off, e, hb, hcell⟩ := HB.out (by intro e; rw [e] at hlt; exact absurd hlt (by simp))
          obtain ⟨hx0, hx1, hx2, hx3⟩ := hcell j hlt
          have hy0 := (hc.below.cell (p := ⟨b, off + j * 4, none⟩) hb).trans hx0
          have hy1 := (hc.below.cell (p := ⟨b, off + j * 4 + 1, none⟩) hb).trans hx1
          have hy2 := (hc.below.cell (p := ⟨b, off + j * 4 + 2, none⟩) hb).trans hx2
          have hy3 := (hc.below.cell (p := ⟨b, off + j * 4 + 3, none⟩) hb).trans hx3
          cases e
          have hji : (j : Int) < (script.length : Int) := by omega
          have hj3i : (j : Int) < 300 := by omega
          clear hcell hx0 hx1 hx2 hx3
          obtain ⟨K, hK⟩ : ∃ K, script[j].1 = K := ⟨_, rfl⟩
          obtain ⟨A, hA⟩ : ∃ A, script[j].2.1 = A := ⟨_, rfl⟩
          obtain ⟨B, hB⟩ : ∃ B, script[j].2.2.1 = B := ⟨_, rfl⟩
          obtain ⟨X, hX⟩ : ∃ X, script[j].2.2.2 = X := ⟨_, rfl⟩
          rw [hK] at hy0
          rw [hA] at hy1
          rw [hB] at hy2
          rw [hX] at hy3
          clear hK hA hB hX
          have bl := (Below.refl _ wr).alloc (Nat.le_refl _) (opObj K A B X)
          have hall : All w P C M room cl cl L L gp cp gm cm wr.heap.size K A B X (wr.alloc (opObj K A B X)) := ⟨hc.later bl, hp.alloc _, hm.alloc _, heap_alloc_new wr _⟩
          obtain ⟨q, hq⟩ : ∃ q, wr.heap.size = q := ⟨_, rfl⟩
          obtain ⟨w3, hw3⟩ : ∃ w3, wr.alloc (opObj K A B X) = w3 := ⟨_, rfl⟩
          rw [hq, hw3] at hall
          unfold opObj at hw3
          have q0 := opObj.c0 hall.op
          have q1 := opObj.c1 hall.op
          have q2 := opObj.c2 hall.op
          have HW := Lib.hid (hall.later ((Below.refl _ w3).drew))
          clear bl hc hp hm hall
          obtain ⟨zA, hA1, hA2⟩ := mod3 A
          obtain ⟨a, ha1, ha2, ha3⟩ := hA2
          obtain ⟨zB, hB1, hB2⟩ := mod3 B
          obtain ⟨c, hc1, hc2, hc3⟩ := hB2
          have HAB := Lib.hid (And.intro ha3 hc3)
          have hai : (a : Int) < 3 := by omega
          have hci : (c : Int) < 3 := by omega
          clear ha3 hc3
          have hcase : K = 0 ∨ K = 1 ∨ K = 2 ∨ K = 3 ∨ K = 4 ∨ (K ≠ 0 ∧ K ≠ 1 ∧ K ≠ 2 ∧ K ≠ 3 ∧ K ≠ 4) := by omega
          go_wp2_with fail
          go_region
          all_goals (
            clear hA1 hB1 ha1 ha2 hc1 hc2 q1 q2
            go_upto_block 4 with fail
            clear q0
            go_cut [] from 86 to 200 (fun wx => ∃ (cl' : Nat → Bool) (L' : Nat → List Int), All w P C M room cl' cl' L' L' gp cp gm cm q K A B X wx)
            case first =>
              rcases hcase with rfl | rfl | rfl | rfl | rfl | ⟨hk0, hk1, hk2, hk3, hk4⟩
              · as_aux_lemma =>
                  have q3 := opObj.c3 HW.out.op
                  have e1 := row_at HW.out.rp HAB.out.1
                  have e2 := row_at HW.out.rm HAB.out.1
                  have HD := Lib.hid (HW.out.later ((Below.refl _ _).drew))
                  go_wp2_with fail
                  go_region_held3 (fun w' => w'.cell? ⟨gp, a, none⟩ = some (.pointer (some ⟨P a, 0, none⟩)) ∧ w'.cell? ⟨gm, a, none⟩ = some (.pointer (some ⟨M a, 0, none⟩)) ∧ w'.cell? ⟨q, 3, none⟩ = some (.int .i64 X))
                    (first | exact ⟨e1, e2, q3⟩ | exact ⟨f1, f2, f3⟩ | exact ⟨g1, g2, g3⟩)
                    (first
                      | (go_at_call 12; refine (psend_any (HR.out.core.pipe a HAB.out.1) X).mono ?_; rintro e w6 ⟨rfl, h, hs⟩; have HX := Lib.hid (HR.out.pt HAB.out.1 h hs); have g1 := row_at HX.out.rp HAB.out.1; have g2 := row_at HX.out.rm HAB.out.1; have g3 := opObj.c3 HX.out.op; clear h hs HR)
                      | (go_at_call 12; refine (psend_any (HD.out.core.pipe a HAB.out.1) X).mono ?_; rintro e w5 ⟨rfl, h, hs⟩; have HQ := Lib.hid (HD.out.pt HAB.out.1 h hs); have f1 := row_at HQ.out.rp HAB.out.1; have f2 := row_at HQ.out.rm HAB.out.1; have f3 := opObj.c3 HQ.out.op; clear h hs)
                      | (go_at_call 13; refine (rsend_any (HQ.out.core.ref a HAB.out.1) (HQ.out.small HAB.out.1).1 X).mono ?_; rintro e w6 ⟨rfl, h, hs⟩; have HX := Lib.hid (HQ.out.rt HAB.out.1 h hs); have g1 := row_at HX.out.rp HAB.out.1; have g2 := row_at HX.out.rm HAB.out.1; have g3 := opObj.c3 HX.out.op; clear h hs HQ)
                      | (go_at_call 13; refine (rsend_any (HD.out.core.ref a HAB.out.1) (HD.out.small HAB.out.1).1 X).mono ?_; rintro e w5 ⟨rfl, h, hs⟩; have HR := Lib.hid (HD.out.rt HAB.out.1 h hs); have f1 := row_at HR.out.rp HAB.out.1; have f2 := row_at HR.out.rm HAB.out.1; have f3 := opObj.c3 HR.out.op; clear h hs))
                  all_goals (
                    clear HW HD q3 e1 e2 f1 f2 f3 g1 g2 g3
                    go_wp2_with fail
                    go_meet
                    exact ⟨_, _, HX.out⟩)
              · as_aux_lemma =>
                  have e1 := row_at HW.out.rp HAB.out.1
                  have hI := HW.out.core.pipe a HAB.out.1
                  have hR := HW.out.core.ref a HAB.out.1
                  have hS := HW.out.small HAB.out.1
                  cases hL : L a with
                  | nil =>
                    rw [hL] at hI hR
                    have HI := Lib.hid hI
                    have HR := Lib.hid hR
                    have e2 := row_at HW.out.rm HAB.out.1
                    clear hI hR hS hL
                    go_wp2_with fail
                    refine (PI.take_none HI.out).mono ?_
                    rintro e w' ⟨rfl, rfl⟩
                    go_wp2_with fail
                    refine (rtake_0 HR.out).mono ?_
                    rintro e w' ⟨rfl, rfl⟩
                    clear e1 e2 HI HR
                    go_wp2_with fail
                    go_meet
                    exact ⟨_, _, HW.out⟩
                  | cons y L1 =>
                    rw [hL] at hI hR hS
                    have HI := Lib.hid hI
                    have HR := Lib.hid hR
                    have HS := Lib.hid (show L1.length ≤ 4096 by have := hS.2; simp at this; omega)
                    clear hI hR hS hL
                    go_wp2_with fail
                    refine (PI.take_some HI.out).mono ?_
                    rintro e w5 ⟨rfl, h, hs⟩
                    have HQ := Lib.hid (HW.out.pt HAB.out.1 h hs)
                    have HR2 := Lib.hid (ref_pipe HR.out HI.out hs)
                    have e2 := row_at HQ.out.rm HAB.out.1
                    clear h hs HW HI HR e1
                    go_wp2_with fail
                    refine (rtake_x HR2.out HS.out).mono ?_
                    rintro e w6 ⟨rfl, h, hs⟩
                    have HX := Lib.hid (HQ.out.rt HAB.out.1 h hs)
                    clear h hs HQ HR2 e2
                    go_wp2_with fail
                    go_meet
                    exact ⟨_, _, HX.out⟩
              · as_aux_lemma =>
                  have e1 := row_at HW.out.rp HAB.out.1
                  have e2 := row_at HW.out.rm HAB.out.1
                  have HD := Lib.hid (HW.out.later ((Below.refl _ _).drew))
                  go_wp2_with fail
                  go_region_held3 (fun w' => w'.cell? ⟨gp, a, none⟩ = some (.pointer (some ⟨P a, 0, none⟩)) ∧ w'.cell? ⟨gm, a, none⟩ = some (.pointer (some ⟨M a, 0, none⟩)))
                    (first | exact ⟨e1, e2⟩ | exact ⟨f1, f2⟩ | exact ⟨g1, g2⟩)
                    (first
                      | (go_at_call 16; refine (PI.close_any (HR.out.core.pipe a HAB.out.1)).mono ?_; rintro e w6 ⟨rfl, h, hs⟩; have HX := Lib.hid (HR.out.pt HAB.out.1 h hs); have g1 := row_at HX.out.rp HAB.out.1; have g2 := row_at HX.out.rm HAB.out.1; clear h hs HR)
                      | (go_at_call 16; refine (PI.close_any (HD.out.core.pipe a HAB.out.1)).mono ?_; rintro e w5 ⟨rfl, h, hs⟩; have HQ := Lib.hid (HD.out.pt HAB.out.1 h hs); have f1 := row_at HQ.out.rp HAB.out.1; have f2 := row_at HQ.out.rm HAB.out.1; clear h hs)
                      | (go_at_call 17; refine (rclose (HQ.out.core.ref a HAB.out.1)).mono ?_; rintro e w6 ⟨rfl, h, hs⟩; have HX := Lib.hid (HQ.out.rt HAB.out.1 h hs); have g1 := row_at HX.out.rp HAB.out.1; have g2 := row_at HX.out.rm HAB.out.1; clear h hs HQ)
                      | (go_at_call 17; refine (rclose (HD.out.core.ref a HAB.out.1)).mono ?_; rintro e w5 ⟨rfl, h, hs⟩; have HR := Lib.hid (HD.out.rt HAB.out.1 h hs); have f1 := row_at HR.out.rp HAB.out.1; have f2 := row_at HR.out.rm HAB.out.1; clear h hs))
                  all_goals (
                    clear HW HD e1 e2 f1 f2 g1 g2
                    go_wp2_with fail
                    go_meet
                    exact ⟨_, _, HX.out⟩)
              · as_aux_lemma =>
                  have HD := Lib.hid (HW.out.later ((Below.refl _ _).drew))
                  have hI0 := HD.out.core.pipe a HAB.out.1
                  have hJ0 := HD.out.core.pipe c HAB.out.2
                  cases hL : L a with
                  | cons y L1 =>
                    rw [hL] at hI0
                    have HI0 := Lib.hid hI0
                    have HS := Lib.hid (show L1.length ≤ 4096 by have := (HW.out.small HAB.out.1).2; rw [hL] at this; simp at this; omega)
                    clear hI0 hJ0
                    have e1 := row_at HD.out.rp HAB.out.1
                    have e2 := row_at HD.out.rp HAB.out.2
                    go_wp2_with fail
                    go_region_held3 (fun w' => w'.cell? ⟨gp, a, none⟩ = some (.pointer (some ⟨P a, 0, none⟩)) ∧ w'.cell? ⟨gp, c, none⟩ = some (.pointer (some ⟨P c, 0, none⟩)))
                      (first | exact ⟨f1, f2⟩ | exact ⟨e1, e2⟩)
                      (first | (go_at_call 18; refine (PI.either_first HI0.out (P c)).mono ?_; rintro e w5 ⟨rfl, h, hs⟩; have HQ := Lib.hid (HD.out.pt HAB.out.1 h hs); clear h hs; have f1 := row_at HQ.out.rp HAB.out.1; have f2 := row_at HQ.out.rp HAB.out.2))
                    all_goals (
                      have HE := Lib.hid (HQ.out.later ((Below.refl _ _).drew))
                      have g1 := row_at HQ.out.rm HAB.out.1
                      have g2 := row_at HQ.out.rm HAB.out.2
                      clear e1 e2 f1 f2
                      have hI := HE.out.core.ref a HAB.out.1
                      have hJ := HE.out.core.ref c HAB.out.2
                      rw [hL] at hI
                      have HI := Lib.hid hI
                      have HJ := Lib.hid hJ
                      clear hI hJ
                      go_wp2_with fail
                      go_region_held3 (fun w' => w'.cell? ⟨gm, a, none⟩ = some (.pointer (some ⟨M a, 0, none⟩)) ∧ w'.cell? ⟨gm, c, none⟩ = some (.pointer (some ⟨M c, 0, none⟩)))
                        (first | exact ⟨k1, k2⟩ | exact ⟨g1, g2⟩)
                        (first | (go_at_call 19; refine (reither_first HI.out HS.out (M c)).mono ?_; rintro e w6 ⟨rfl, h, hs⟩; have HX := Lib.hid (HE.out.rt HAB.out.1 h hs); clear h hs; have k1 := row_at HX.out.rm HAB.out.1; have k2 := row_at HX.out.rm HAB.out.2))
                      all_goals (
                        clear g1 g2 k1 k2
                        go_wp2_with fail
                        go_meet
                        exact ⟨_, _, HX.out⟩))
                  | nil =>
                    rw [hL] at hI0
                    have HI0 := Lib.hid hI0
                    clear hI0
                    cases hN : L c with
                    | cons y L1 =>
                      rw [hN] at hJ0
                      have HJ0 := Lib.hid hJ0
                      have HS := Lib.hid (show L1.length ≤ 4096 by have := (HW.out.small HAB.out.2).2; rw [hN] at this; simp at this; omega)
                      clear hJ0
                      have e1 := row_at HD.out.rp HAB.out.1
                      have e2 := row_at HD.out.rp HAB.out.2
                      go_wp2_with fail
                      go_region_held3 (fun w' => w'.cell? ⟨gp, a, none⟩ = some (.pointer (some ⟨P a, 0, none⟩)) ∧ w'.cell? ⟨gp, c, none⟩ = some (.pointer (some ⟨P c, 0, none⟩)))
                        (first | exact ⟨f1, f2⟩ | exact ⟨e1, e2⟩)
                        (first | (go_at_call 18; refine (PI.either_second HI0.out HJ0.out).mono ?_; rintro e w5 ⟨rfl, h, hs⟩; have HQ := Lib.hid (HD.out.pt HAB.out.2 h hs); clear h hs; have f1 := row_at HQ.out.rp HAB.out.1; have f2 := row_at HQ.out.rp HAB.out.2))
                      all_goals (
                        have HE := Lib.hid (HQ.out.later ((Below.refl _ _).drew))
                        have g1 := row_at HQ.out.rm HAB.out.1
                        have g2 := row_at HQ.out.rm HAB.out.2
                        clear e1 e2 f1 f2
                        have hI := HE.out.core.ref a HAB.out.1
                        have hJ := HE.out.core.ref c HAB.out.2
                        rw [hL] at hI
                        rw [hN] at hJ
                        have HI := Lib.hid hI
                        have HJ := Lib.hid hJ
                        clear hI hJ
                        go_wp2_with fail
                        go_region_held3 (fun w' => w'.cell? ⟨gm, a, none⟩ = some (.pointer (some ⟨M a, 0, none⟩)) ∧ w'.cell? ⟨gm, c, none⟩ = some (.pointer (some ⟨M c, 0, none⟩)))
                          (first | exact ⟨k1, k2⟩ | exact ⟨g1, g2⟩)
                          (first | (go_at_call 19; refine (reither_second HI.out HJ.out HS.out).mono ?_; rintro e w6 ⟨rfl, h, hs⟩; have HX := Lib.hid (HE.out.rt HAB.out.2 h hs); clear h hs; have k1 := row_at HX.out.rm HAB.out.1; have k2 := row_at HX.out.rm HAB.out.2))
                        all_goals (
                          clear g1 g2 k1 k2
                          go_wp2_with fail
                          go_meet
                          exact ⟨_, _, HX.out⟩))
                    | nil =>
                      rw [hN] at hJ0
                      have HJ0 := Lib.hid hJ0
                      clear hJ0
                      have e1 := row_at HD.out.rp HAB.out.1
                      have e2 := row_at HD.out.rp HAB.out.2
                      go_wp2_with fail
                      go_region_held3 (fun w' => w'.cell? ⟨gp, a, none⟩ = some (.pointer (some ⟨P a, 0, none⟩)) ∧ w'.cell? ⟨gp, c, none⟩ = some (.pointer (some ⟨P c, 0, none⟩)))
                        (first | exact ⟨f1, f2⟩ | exact ⟨e1, e2⟩)
                        (first | (go_at_call 18; refine (PI.either_none HI0.out HJ0.out).mono ?_; rintro e w5 ⟨rfl, rfl⟩; have HQ := HD; have f1 := row_at HQ.out.rp HAB.out.1; have f2 := row_at HQ.out.rp HAB.out.2))
                      all_goals (
                        have HE := Lib.hid (HQ.out.later ((Below.refl _ _).drew))
                        have g1 := row_at HQ.out.rm HAB.out.1
                        have g2 := row_at HQ.out.rm HAB.out.2
                        clear e1 e2 f1 f2
                        have hI := HE.out.core.ref a HAB.out.1
                        have hJ := HE.out.core.ref c HAB.out.2
                        rw [hL] at hI
                        rw [hN] at hJ
                        have HI := Lib.hid hI
                        have HJ := Lib.hid hJ
                        clear hI hJ
                        go_wp2_with fail
                        go_region_held3 (fun w' => w'.cell? ⟨gm, a, none⟩ = some (.pointer (some ⟨M a, 0, none⟩)) ∧ w'.cell? ⟨gm, c, none⟩ = some (.pointer (some ⟨M c, 0, none⟩)))
                          (first | exact ⟨k1, k2⟩ | exact ⟨g1, g2⟩)
                          (first | (go_at_call 19; refine (reither_none HI.out HJ.out).mono ?_; rintro e w6 ⟨rfl, rfl⟩; have HX := HE; have k1 := row_at HX.out.rm HAB.out.1; have k2 := row_at HX.out.rm HAB.out.2))
                        all_goals (
                          clear g1 g2 k1 k2
                          go_wp2_with fail
                          go_meet
                          exact ⟨_, _, HX.out⟩))
              · as_aux_lemma =>
                  have HD := Lib.hid (HW.out.later ((Below.refl _ _).drew))
                  by_cases hac : a = c
                  · subst hac
                    have e1 := row_at HD.out.rp HAB.out.1
                    go_wp2_with fail
                    go_region_held3 (fun w' => w'.cell? ⟨gp, a, none⟩ = some (.pointer (some ⟨P a, 0, none⟩)))
                      (exact e1)
                      (first | (go_at_call 21; refine (PI.move_self (HD.out.core.pipe a HAB.out.1)).mono ?_; rintro e w5 ⟨rfl, rfl⟩))
                    all_goals (
                      clear e1
                      go_wp2_with fail
                      go_meet
                      exact ⟨_, _, HD.out⟩)
                  · have e1 := row_at HD.out.rm HAB.out.1
                    have e2 := row_at HD.out.rm HAB.out.2
                    have hacb : ((a : Int) != (c : Int)) = true := by simp; omega
                    have hS1 := HW.out.small HAB.out.1
                    have hS2 := HW.out.small HAB.out.2
                    have HS := Lib.hid (And.intro hS1 hS2)
                    have HAC := Lib.hid hac
                    clear hS1 hS2 hac
                    go_wp2_with fail
                    go_region_held3 (fun w' => w'.cell? ⟨gm, a, none⟩ = some (.pointer (some ⟨M a, 0, none⟩)) ∧ w'.cell? ⟨gm, c, none⟩ = some (.pointer (some ⟨M c, 0, none⟩)))
                      (first | exact ⟨f1, f2⟩ | exact ⟨e1, e2⟩)
                      (first | (go_at_call 20; refine (rmove_any (HD.out.core.ref a HAB.out.1) (HD.out.core.ref c HAB.out.2) (HD.out.core.two a c HAB.out.1 HAB.out.2 HAC.out).2 HS.out.1.2 HS.out.2.1).mono ?_; rintro e w5 ⟨rfl, h, k, hs⟩; have HQ := Lib.hid (HD.out.rt2 HAB.out.1 HAB.out.2 HAC.out h k hs); have f1 := row_at HQ.out.rm HAB.out.1; have f2 := row_at HQ.out.rm HAB.out.2; clear h k hs))
                    all_goals (
                      have HE := Lib.hid (HQ.out.later ((Below.refl _ _).drew))
                      have g1 := row_at HQ.out.rp HAB.out.1
                      have g2 := row_at HQ.out.rp HAB.out.2
                      clear e1 e2 f1 f2
                      go_wp2_with fail
                      go_region_held3 (fun w' => w'.cell? ⟨gp, a, none⟩ = some (.pointer (some ⟨P a, 0, none⟩)) ∧ w'.cell? ⟨gp, c, none⟩ = some (.pointer (some ⟨P c, 0, none⟩)))
                        (first | exact ⟨k1, k2⟩ | exact ⟨g1, g2⟩)
                        (first | (go_at_call 21; refine (PI.move_any (HE.out.core.pipe a HAB.out.1) (HE.out.core.pipe c HAB.out.2) (HE.out.core.two a c HAB.out.1 HAB.out.2 HAC.out).1).mono ?_; rintro e w6 ⟨rfl, h, k, hs⟩; have HX := Lib.hid (HE.out.pt2 HAB.out.1 HAB.out.2 HAC.out h k hs); have k1 := row_at HX.out.rp HAB.out.1; have k2 := row_at HX.out.rp HAB.out.2; clear h k hs))
                      all_goals (
                        clear g1 g2 k1 k2
                        go_wp2_with fail
                        go_meet
                        exact ⟨_, _, HX.out⟩))
              · have hk0' : (K == 0) = false := by simp [hk0]
                have hk1' : (K == 1) = false := by simp [hk1]
                have hk2' : (K == 2) = false := by simp [hk2]
                have hk3' : (K == 3) = false := by simp [hk3]
                have hk4' : (K == 4) = false := by simp [hk4]
                clear hk0 hk1 hk2 hk3 hk4
                go_wp2_with fail
                go_meet
                exact ⟨_, _, HW.out⟩
            case rest =>
              obtain ⟨cl, L, hx⟩ := hcut
              clear HW
              have HW := Lib.hid hx
              clear hx hcase
              go_wp2_with fail
              go_loopw [24] (fun t wt => ∃ k : Nat, k ≤ 3 ∧ t = .int .i64 k ∧ All w P C M room cl cl L L gp cp gm cm q K A B X wt) (fun t _ => 3 - (intOf t).toNat)
              case atStart => exact ⟨0, by omega, rfl, HW.out⟩
              case round =>
                clear HW
                obtain ⟨k, hk, rfl, hw⟩ := hrel
                obtain ⟨wt, rfl⟩ : ∃ w' : World, w' = wr := ⟨_, rfl⟩
                have HW := Lib.hid (hw.later ((Below.refl _ wt).drew))
                by_cases hk3 : k < 3
                · have hki : (k : Int) < 3 := by omega
                  have e1 := row_at hw.rp hk3
                  have e2 := row_at hw.rm hk3
                  obtain ⟨a3, cap3, e3⟩ := (hw.core.ref k hk3).cell
                  have HI := Lib.hid (HW.out.core.pipe k hk3)
                  obtain ⟨N3, hN3⟩ : ∃ N3, (L k).length = N3 := ⟨_, rfl⟩
                  rw [hN3] at e3
                  have HN3 := Lib.hid hN3
                  clear hw hN3
                  go_wp2_with fail
                  go_region_held3 (fun w' => w'.cell? ⟨gp, k, none⟩ = some (.pointer (some ⟨P k, 0, none⟩)) ∧ w'.cell? ⟨gm, k, none⟩ = some (.pointer (some ⟨M k, 0, none⟩)) ∧ w'.cell? ⟨M k, 1, none⟩ = some (.slice a3 N3 cap3)) (exact ⟨e1, e2, e3⟩)
                    (first | (go_at_call 22; refine (PI.len_any HI.out).mono ?_; rintro e w' ⟨rfl, rfl⟩; rw [HN3.out]))
                  all_goals (
                    go_wp2_with fail
                    go_roundw
                    case rel => exact ⟨k + 1, hk3, by go_num, HW.out⟩
                    case measure => simp [intOf]; omega)
                · have HE := Lib.hid hw
                  clear hw
                  go_wp2_with fail
                  go_roundw
                  case rel => exact ⟨j + 1, cl, L, hlt, hlt3, by go_num, HE.out.core, HE.out.rp, HE.out.rm⟩
                  case measure => simp [intOf]; omega)
        · have hcase : ¬ j < script.length ∨ (j < script.length ∧ ¬ j < 300) := by omega
          have HBB := Lib.hid hc.below
          clear hc hp hm
          rcases hcase with hge | ⟨hlt1, hge⟩
          all_goals (
            go_wp2_with fail
            refine (fixed_any _).mono ?_
            rintro e w2 ⟨rfl, B2⟩
            have HB2 := HBB.out.trans (B2.mono HBB.out.size)
            clear B2
            go_wp2_with fail
            go_ret
            exact ⟨rfl, HB2⟩)

set_option maxRecDepth 100000 in
/-- WHAT THE WALK GIVES, for every argument that can be read. -/
theorem contract (H : Type) (enc : TypeId × Value → H) (W : World) (base : Nat) (args : Array Value) (ds gs : List (DataW H)) (before : List MemPlace)
    (hval : ∀ (j : Nat) t v, Try.f4.params[j]? = some t → args[j]? = some v → Value.okWide Try.prog W .any base t v)
    (hW : DataW.Whole enc Try.prog Try.f4.params.toList Rows.pipeDoesSpec.vars false W args.toList ds gs before)
    (hreach : (DataW.weightsEach Try.prog (Try.f4.params.toList) ds).all (· ≤ reachBytes) = true) :
    Calls Try.prog 4 args W fun e W' => ∃ v, e = .returned v ∧ Rows.pipeDoesSpec.post enc Try.prog Try.f4 false true false false W args v W' := by
  have hW' := hW
  obtain ⟨p, q, hA0, hV, rfl, hfz, hnd⟩ := hW
  have hA : DataW.TrodAll enc Try.prog W 0 (fun _ => true) true Try.f4.params.toList args.toList ds p := hA0
  rw [Try.params4] at hA hval hreach
  obtain ⟨v0, v1, d0, d1, p0, p1, rfl, rfl, rfl, h0, h1⟩ := trodAll_two hA
  obtain ⟨rfl, rfl⟩ := trodVars_none hV
  have lt0 : ∀ x ∈ p0, x.block < W.heap.size := fun x hx => hW'.lt x (by simp [hx])
  obtain ⟨l0, k0, r0⟩ := ints_open (hval 0 29 v0 rfl rfl) h0 lt0 hreach (j := 0) rfl rfl
  have lt1 : ∀ x ∈ p1, x.block < W.heap.size := fun x hx => hW'.lt x (by simp [hx])
  obtain ⟨l1, k1, r1⟩ := ops_open (hval 1 30 v1 rfl rfl) h1 lt1
  clear hA0 hval
  simp only [List.append_nil] at hW'
  refine (walk v0 l0 v1 l1 W k0 r0 k1 r1).mono fun e W' ⟨he, hB⟩ => ?_
  subst he
  exact ⟨_, rfl, post_of_below (pa := p0 ++ (p1)) (pv := []) hW' (fun _ _ _ => trodAll_mk1 (shut_bool Try.underlying4 _)) (fun sp hsp => trodAll_mk2 (WideElems.Trod_stays laidOut (by kernel_rfl) (of_decide_eq_true (by kernel_rfl)) h0 (fun x hx => hB.same (lt0 x hx)) (fun x hx => hsp x (by simp [hx]))) (WideElems.Trod_stays laidOut (by kernel_rfl) (of_decide_eq_true (by kernel_rfl)) h1 (fun x hx => hB.same (lt1 x hx)) (fun x hx => hsp x (by simp [hx])))) (fun _ _ => rfl) (by simp) hB (ok_one (by kernel_rfl) rfl (okWide_bool_mk Try.underlying4 _))⟩

theorem reads (os : Os) {H : Type} (enc : TypeId × Value → H) : ∃ places, DataW.whole enc Try.prog ((laidWorld os).forCall (fun _ _ => 0) ⟨#[], #[.slice none 0 0, .slice none 0 0], []⟩).memory Try.f4.params.toList Rows.pipeDoesSpec.vars false (#[.slice none 0 0, .slice none 0 0] : Array Value).toList 8 = some ([.nil, .nil], [], places) :=
  ⟨[], by kernel_rfl⟩

set_option maxRecDepth 100000 in
theorem lifted (os : Os) (started : os.Started) (H : Type) (enc : TypeId × Value → H) (F : Stop.Interp) :
    ReturnsInHanded {} Try.checked os 4 .any ((OpenSpec.ofChange Rows.pipeDoesSpec).preRow enc Try.prog Try.f4 Rows.pipeDoesRow.domain false Rows.pipeDoesRow.laid) (((OpenSpec.ofChange Rows.pipeDoesSpec).at F).post enc Try.prog Try.f4 false true false false) := by
  obtain ⟨places, hx⟩ := reads os enc
  refine returnsInHanded_of_row (C := Try.checked) (s := OpenSpec.ofChange Rows.pipeDoesSpec) own started (by kernel_rfl) Try.func4
    (witness_row_at (enc := enc) (C := Try.checked) false (laidWorld os) #[.slice none 0 0, .slice none 0 0] rfl (by kernel_rfl) (by kernel_rfl) (by kernel_rfl)
      (OpenSpec.preRow_of_cond 8 hx (by kernel_rfl) (fun k hk => by cases hk) (by kernel_rfl) (laid_met os _))) ?_
  intro W base args ds gs before hval hW _ hcond hreach hL _ _
  obtain ⟨p, q, hA0, hV, hpq, hfz, hnd⟩ := id hW
  obtain ⟨rfl, _⟩ := trodVars_none hV
  rw [List.append_nil] at hreach
  exact contract H enc W base args ds [] before hval hW hreach

theorem said : Rows.PipeDoesSaid :=
  OpenClaim.holds_of_cond 4 Try.f4 rfl rfl rfl rfl rfl rfl rfl ⟨rfl, rfl, rfl, rfl, rfl⟩ rfl rfl rfl rfl rfl (by kernel_rfl) Try.func4 (by kernel_rfl)
    (of_decide_eq_true (by kernel_rfl)) (by unfold Func.isWrapper; first | (rw [if_pos (by decide +kernel)]; kernel_rfl) | (rw [if_neg (by decide +kernel)]; exact ⟨rfl, rfl⟩))
    (fun os started H enc _ F => by rw [OpenClaim.pre_eq_preRow]; exact lifted os started H enc F)



end Go.Proofs.Ytmlemgifejefiaa.does
