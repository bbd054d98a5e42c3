/-
  The reference's log: numbers, sector 0, Format.
-/
import Derived.Test.YteboacjniokfpaaGreatDoorNC
import Derived.Test.YteboacjniokfpaaGreatDoorMD
import Derived.Deep.RegionHeld3
namespace Go.Proofs.YteboacjniokfpaaGreatDoor
open Go.RowKit Go Go.Maps SM

set_option maxRecDepth 100000 in
set_option maxHeartbeats 1000000 in
theorem rnum_any (n k : Nat) (hn : n ≤ 9223372036854775807) (hk : k ≤ 8) (w : World) :
    Calls Tryz.prog 117 #[.int .i64 n, .int .i64 k] w fun e w' => e = .returned (.string (bsL (leN n k))) ∧ Below w.heap.size w w' := by
  obtain ⟨i0, hi, hz0, hz1, hz2⟩ := info_parts info5e
  have hk8 : (k : Int) ≤ 8 := by omega
  have H0 := Lib.hid (show (w.alloc (.cells #[] 5)).ownsRow w.heap.size 5 1 (.slice (some ⟨w.heap.size, 0, none⟩) 0 0) 0 [] from World.ownsRow_made w #[] 0 (Nat.le_refl _) (Nat.zero_le _) rfl)
  have HB0 := Lib.hid (show Below w.heap.size w (w.alloc (.cells #[] 5)) from (Below.refl _ w).alloc (Nat.le_refl _) _)
  go_enter Tryz.func117, Tryz.ntmps117
  go_wp2
  go_loopw [5, 0, 6] (fun v m i wr => ∃ j : Nat, j ≤ k ∧ i = .int .i64 j ∧ m = .int .i64 ((n / 256 ^ j : Nat) : Int) ∧ wr.ownsRow w.heap.size 5 1 v (leN n j).length (u8c (leN n j)) ∧ Below w.heap.size w wr) (fun _ _ i _ => k - (intOf i).toNat)
  case atStart => exact ⟨0, Nat.zero_le _, rfl, by simp, H0.out, HB0.out⟩
  case round =>
    obtain ⟨j, hj, rfl, rfl, hrow, hB⟩ := hrel
    by_cases hlt : j < k
    · have hji : (j : Int) < (k : Int) := by omega
      have HS := Lib.hid (show leN n (j + 1) = leN n j ++ [UInt8.ofNat (n / 256 ^ j % 256)] from leN_snoc j n)
      have HP := Lib.hid (show n / 256 ^ (j + 1) = n / 256 ^ j / 256 by rw [Nat.div_div_eq_div_mul, Nat.pow_succ])
      have hle : n / 256 ^ j ≤ 9223372036854775807 := Nat.le_trans (Nat.div_le_self _ _) hn
      have hlen := length_leN n j
      generalize n / 256 ^ j = q at *
      have hx : (UInt8.ofNat (q % 256)).toNat = q % 256 := by simp
      have hbw : IntKind.u8.wrap ((q : Int) % 256) = ((UInt8.ofNat (q % 256)).toNat : Int) := by
        rw [hx]
        show ((q : Int) % 256) % 256 = _
        omega
      have hbw2 : IntKind.u8.wrap ((q : Int).tmod 256) = ((UInt8.ofNat (q % 256)).toNat : Int) := by
        rw [Int.tmod_eq_emod_of_nonneg (by omega)]; exact hbw
      generalize UInt8.ofNat (q % 256) = x at *
      generalize leN n j = L at *
      have hszW : w.heap.size ≤ wr.heap.size := hB.size
      clear hx
      go_wp2_with (at_builtin; refine wpList_append_own _ rfl _ _ 74 rfl w.heap.size 5 i0 (.int .u8 0) 1 1 Tryz.underlying74 hi hz0 hz1 hz2 rfl (by decide) _ _ _ rfl (hrow.alloc _) ⟨wr.heap.size, 0, none⟩ 1 1 [.int .u8 x.toNat] rfl rfl (cell_one_new _ _ _) (by simp [Value.oneCell']) (by unfold maxLen; omega) (by omega) (by simp; omega) ?_; intro v' w1 hown' hgrow _)
      have hB1 : Below w.heap.size w w1 := (hB.alloc hszW _).grown hgrow (by simp; omega) (fun j ej => (hrow.lt j ej).1)
      go_roundw
      case rel => exact ⟨j + 1, by omega, by go_num, by rw [HP.out]; go_num, by rw [HS.out, List.length_append, u8c_snoc]; exact hown', hB1⟩
      case measure => simp [intOf]; omega
    · obtain rfl : j = k := by omega
      have hcv := conv_row wr w.heap.size _ _ hrow
      have HB := Lib.hid hB
      clear hlt hrow hB hj hk8 hk
      go_wp2
      go_ret
      exact ⟨rfl, HB.out⟩

theorem head_text (gen used : Nat) : (⟨#[78, 86]⟩ : ByteArray) ++ bsL (leN gen 6) ++ bsL (leN used 4) ++ nought 52 = headB gen used := by
  rw [← bsL_head]
  have hs : ((⟨#[78, 86]⟩ : ByteArray) ++ bsL (leN gen 6) ++ bsL (leN used 4)).size = 12 := by
    rw [ByteArray.size_append, ByteArray.size_append, size_bsL, size_bsL, length_leN, length_leN]; rfl
  rw [fillB, hs]
  rfl
set_option maxRecDepth 100000 in
theorem rhead_any (gen used : Nat) (hg : gen ≤ 9223372036854775807) (hu : used ≤ 9223372036854775807) (w : World) :
    Calls Tryz.prog 79 #[.int .i64 gen, .int .i64 used] w fun e w' => e = .returned (.string (headB gen used)) ∧ Below w.heap.size w w' := by
  have C1 := fun w => rnum_any gen 6 hg (by omega) w
  have C2 := fun w => rnum_any used 4 hu (by omega) w
  have HE := Lib.hid (head_text gen used)
  have hs1 : (bsL (leN gen 6)).size = 6 := by rw [size_bsL, length_leN]
  have hs2 : (bsL (leN used 4)).size = 4 := by rw [size_bsL, length_leN]
  generalize bsL (leN gen 6) = X at *
  generalize bsL (leN used 4) = Y at *
  have hT : ((⟨#[78, 86]⟩ : ByteArray) ++ X ++ Y).size = 12 := by rw [ByteArray.size_append, ByteArray.size_append, hs1, hs2]; rfl
  go_enter Tryz.func79, Tryz.ntmps79
  go_wp2_with fail
  refine (C1 _).mono ?_
  rintro e w1 ⟨rfl, hB1⟩
  go_wp2_with fail
  refine (C2 _).mono ?_
  rintro e w2 ⟨rfl, hB2⟩
  have HB := Lib.hid (hB1.trans (hB2.mono hB1.size))
  obtain ⟨m1, m2⟩ := made_text w2 52 (by omega)
  have HBm := Lib.hid (show Below w.heap.size w (w2.alloc (.cells (madeCells #[.int .u8 0] 52) 5)) from HB.out.alloc HB.out.size _)
  have hn52 : (nought 52).size = 52 := size_nought 52
  generalize nought 52 = Z at m2 HE hn52
  have HT := Lib.hid hT
  have e64 : (64 : Int) - (((⟨#[78, 86]⟩ : ByteArray) ++ X ++ Y).size : Int) = 52 := by rw [hT]; rfl
  have hsz : ¬ 9223372036854775807 < ((⟨#[78, 86]⟩ : ByteArray) ++ X ++ Y).size + Z.size := by rw [hT, hn52]; decide
  have m1' : (Instr.makeSlice 74 (.int .i64 52) (.int .i64 52)).run Tryz.prog w2 = _ := m1
  clear hB1 hB2 m1 hT e64 hsz
  generalize madeCells #[.int .u8 0] 52 = M at m1' m2 HBm
  go_wp2
  go_ret
  exact ⟨by rw [HE.out]; rfl, HBm.out⟩

/-! ### the reference's log -/
def RLO (r n : Nat) (u : Value) (dead : Bool) : Obj := .cells #[.pointer (some ⟨r, 0, none⟩), .int .i64 n, u, .bool dead] 51 (0, 0)
section
variable {q r n : Nat} {u : Value} {dead : Bool} {w : World}
theorem RLO.c0 (h : w.heap[q]? = some (RLO r n u dead)) : w.cell? ⟨q, 0, none⟩ = some (.pointer (some ⟨r, 0, none⟩)) := by simp [World.cell?, h, RLO]
theorem RLO.c1 (h : w.heap[q]? = some (RLO r n u dead)) : w.cell? ⟨q, 1, none⟩ = some (.int .i64 n) := by simp [World.cell?, h, RLO]
theorem RLO.c2 (h : w.heap[q]? = some (RLO r n u dead)) : w.cell? ⟨q, 2, none⟩ = some u := by simp [World.cell?, h, RLO]
theorem RLO.c3 (h : w.heap[q]? = some (RLO r n u dead)) : w.cell? ⟨q, 3, none⟩ = some (.bool dead) := by simp [World.cell?, h, RLO]
theorem RLO.fr (h : w.heap[q]? = some (RLO r n u dead)) (i : Nat) : w.frozen? ⟨q, i, none⟩ = false := by simp [World.frozen?, h, RLO]
end
/-- the reference's log object beside its disk, since a world -/
structure RD (q r n base : Nat) (u : Value) (dead : Bool) (s : DS) (zs : List Int) (v0 v2 : Value) (w0 w : World) : Prop where
  obj : w.heap[q]? = some (RLO r n u dead)
  ref : ∃ v1 kp, RefAt r base s zs v0 v1 v2 kp w
  stir : Stir (fun k => k = q ∨ RF r v0 k) w0 w
section
variable {q r n base : Nat} {u : Value} {dead : Bool} {s : DS} {zs : List Int} {v0 v1 v2 : Value} {kp : ByteArray} {w0 w w' : World}
theorem RefAt.not_log (h : RefAt r base s zs v0 v1 v2 kp w) (ho : w.heap[q]? = some (RLO r n u dead)) : ¬ RF r v0 q := by
  rintro (rfl | e)
  · rw [h.obj] at ho; simp [RO, RLO] at ho
  · obtain ⟨C, hC⟩ := owns_block h.st e
    rw [ho] at hC; simp [RLO] at hC
theorem RD.below (h : RD q r n base u dead s zs v0 v2 w0 w) (hB : Below w.heap.size w w') : RD q r n base u dead s zs v0 v2 w0 w' := by
  obtain ⟨v1, kp, hr⟩ := h.ref
  exact ⟨keeps_of hB h.obj, ⟨v1, kp, hr.below hB⟩, h.stir.and_below hB⟩
theorem RD.drew (h : RD q r n base u dead s zs v0 v2 w0 w) : RD q r n base u dead s zs v0 v2 w0 w.drew := h.below ((Below.refl _ w).drew)
theorem RD.turn {s' : DS} (h : RD q r n base u dead s zs v0 v2 w0 w) (hd : ∃ v1 kp, RefAt r base s' zs v0 v1 v2 kp w') (hs : Stir (RF r v0) w w') : RD q r n base u dead s' zs v0 v2 w0 w' := by
  obtain ⟨v1, kp, hr⟩ := h.ref
  exact ⟨hs.keep h.obj (hr.not_log h.obj), hd, h.stir.trans hs (fun _ e => .inl (.inr e))⟩
theorem RD.set {dead' : Bool} (h : RD q r n base u dead s zs v0 v2 w0 w) : RD q r n base u dead' s zs v0 v2 w0 (w.setCell ⟨q, 3, none⟩ (.bool dead')) := by
  obtain ⟨v1, kp, hr⟩ := h.ref
  have hs : Stir (· = q) w (w.setCell ⟨q, 3, none⟩ (.bool dead')) := (Stir.refl (· = q) w).set (.inl rfl) _
  have hn := hr.not_log h.obj
  have hbl : ∀ i C t f, w.heap[i]? = some (.cells C t f) → t ≠ 51 → ¬ i = q := fun i C t f hC ht e => by
    subst e
    rw [h.obj] at hC
    simp [RLO] at hC
    exact ht hC.2.1.symm
  refine ⟨by rw [heap_set h.obj]; simp [RLO], ⟨v1, kp, ?_⟩, h.stir.set (.inl (.inl rfl)) _⟩
  exact ⟨hs.keep hr.obj (hbl _ _ _ _ hr.obj (by decide)), owns_stay hr.st hs (fun i hi => by obtain ⟨C, hC⟩ := owns_block hr.st hi; exact hbl _ _ _ _ hC (by decide)), owns_stay hr.lo hs (fun i hi => by obtain ⟨C, hC⟩ := owns_block hr.lo hi; exact hbl _ _ _ _ hC (by decide)),
    owns_stay hr.ba hs (fun i hi => by obtain ⟨C, hC⟩ := owns_block hr.ba hi; exact hbl _ _ _ _ hC (by decide)), hr.bads, hr.few, hr.keep, hr.kple, hr.low⟩
theorem rtold_any (h : RD q r n base u dead s zs v0 v2 w0 w) (e : Int) :
    Calls Tryz.prog 57 #[.pointer (some ⟨q, 0, none⟩), .int .i64 e] w fun x w' => x = .returned (.int .i64 e) ∧ RD q r n base u (dead || (e == 2)) s zs v0 v2 w0 w' := by
  have c3 := RLO.c3 h.obj
  have f3 := RLO.fr h.obj 3
  cases dead with
  | true =>
    have HS := Lib.hid (h.set (dead' := true))
    clear h
    go_enter Tryz.func57, Tryz.ntmps57
    go_wp2
    go_ret
    exact ⟨rfl, HS.out⟩
  | false =>
    have HS := Lib.hid (h.set (dead' := (e == 2)))
    clear h
    rw [Bool.false_or]
    obtain ⟨d, hd⟩ : ∃ d, (e == 2) = d := ⟨_, rfl⟩
    rw [hd] at HS ⊢
    go_enter Tryz.func57, Tryz.ntmps57
    go_wp2
    go_ret
    exact ⟨rfl, HS.out⟩
def headsDead (g u : Nat) (s : DS) (dead : Bool) : Bool := dead || ((heads g u s).1 == 2)
set_option maxRecDepth 100000 in
set_option maxHeartbeats 2000000 in
theorem rheads_any (h : RD q r n base u dead s zs v0 v2 w0 w) (hk : s.Ok) (hm : s.made < 900000000) {g used : Nat} (hg : g ≤ 9223372036854775807) (hu : used ≤ 9223372036854775807) :
    Calls Tryz.prog 61 #[.pointer (some ⟨q, 0, none⟩), .int .i64 g, .int .i64 used] w fun e w' => e = .returned (.int .i64 (heads g used s).1) ∧ RD q r n base u (headsDead g used s dead) (heads g used s).2 zs v0 v2 w0 w' := by
  have CH := fun w => rhead_any g used hg hu w
  have hh : heads g used s = if s.writeE 0 (headB g used) = 0 then ((s.write 0 (headB g used)).syncE, (s.write 0 (headB g used)).sync) else (s.writeE 0 (headB g used), s.write 0 (headB g used)) := by
    unfold heads put puts puts
    rw [secB_head]
    simp only [Nat.zero_add, Int.natCast_zero]
    by_cases e : s.writeE 0 (headB g used) = 0
    · simp [e]
    · simp [e]
  unfold headsDead
  obtain ⟨R, hR⟩ : ∃ R, heads g used s = R := ⟨_, rfl⟩
  rw [hR]
  rw [hR] at hh
  have HH := Lib.hid hh
  clear hR hh
  have CW := fun W v1 kp (h : RefAt r base s zs v0 v1 v2 kp W) => rwrite_at h hk (by omega) 0 ⟨by decide, by decide⟩ (headB g used)
  have hm2 := made_write' s 0 (headB g used)
  have hk2 := hk.write 0 (headB g used)
  generalize headB g used = X at *
  have CS := fun W v1 kp (h : RefAt r base (s.write 0 X) zs v0 v1 v2 kp W) => rsync_at h hk2 (by omega)
  have CT := fun W dead s e (h : RD q r n base u dead s zs v0 v2 w0 W) => rtold_any h e
  have HD0 := Lib.hid h.drew
  have c0 := RLO.c0 HD0.out.obj
  obtain ⟨E, hE⟩ : ∃ E, s.writeE 0 X = E := ⟨_, rfl⟩
  rw [hE] at HH CW
  clear h hE
  by_cases hE0 : E = 0
  · subst hE0
    have HH2 := Lib.hid (show R = ((s.write 0 X).syncE, (s.write 0 X).sync) by rw [HH.out]; rfl)
    obtain ⟨E2, hE2⟩ : ∃ E2, (s.write 0 X).syncE = E2 := ⟨_, rfl⟩
    rw [hE2] at HH2 CS
    clear hE2
    go_enter Tryz.func61, Tryz.ntmps61
    go_wp2_with fail
    go_region_held3 (fun w' => w'.cell? ⟨q, 0, none⟩ = some (.pointer (some ⟨r, 0, none⟩))) (first | exact c0 | exact d0 | exact e0 | exact f0)
      (first
        | (go_at_call 79; refine (CH _).mono ?_; rintro e w5 ⟨rfl, hB⟩; have H5 := Lib.hid (HD0.out.below hB); have d0 := RLO.c0 H5.out.obj; clear hB)
        | (go_at_call 58; obtain ⟨v1, kp, hr5⟩ := H5.out.ref; refine (CW _ _ _ hr5).mono ?_; rintro e w6 ⟨rfl, h6, s6⟩; have H6 := Lib.hid (H5.out.turn h6 s6); have e0 := RLO.c0 H6.out.obj; clear h6 s6 hr5)
        | (go_at_call 57; refine (CT _ _ _ _ H6.out).mono ?_; rintro e w7 ⟨rfl, h7⟩; have H7 := Lib.hid h7; have f0 := RLO.c0 H7.out.obj; clear h7))
    have h7 := H7.out
    rw [show (dead || ((0 : Int) == 2)) = dead by simp] at h7
    obtain ⟨v1', kp', hr7⟩ := h7.ref
    have C7 := CS _ _ _ hr7
    have H7' := Lib.hid h7
    clear h7 hr7 CH CW CS H7 c0 d0 e0
    go_wp2_with fail
    refine C7.mono ?_
    rintro e w8 ⟨rfl, h8, s8⟩
    have H8 := Lib.hid (H7'.out.turn h8 s8)
    clear h8 s8 C7
    go_wp2_with fail
    refine (CT _ _ _ _ H8.out).mono ?_
    rintro e w9 ⟨rfl, h9⟩
    have H9 := Lib.hid h9
    clear h9 CT
    go_wp2
    go_ret
    exact ⟨by rw [HH2.out]; rfl, by rw [HH2.out]; exact H9.out⟩
  · have HH2 := Lib.hid (show R = (E, s.write 0 X) by rw [HH.out, if_neg hE0])
    have hEb : (E == 0) = false := beq_eq_false_iff_ne.2 hE0
    clear HH hE0
    go_enter Tryz.func61, Tryz.ntmps61
    go_wp2_with fail
    go_region_held3 (fun w' => w'.cell? ⟨q, 0, none⟩ = some (.pointer (some ⟨r, 0, none⟩))) (first | exact c0 | exact d0 | exact e0 | exact f0)
      (first
        | (go_at_call 79; refine (CH _).mono ?_; rintro e w5 ⟨rfl, hB⟩; have H5 := Lib.hid (HD0.out.below hB); have d0 := RLO.c0 H5.out.obj; clear hB)
        | (go_at_call 58; obtain ⟨v1, kp, hr5⟩ := H5.out.ref; refine (CW _ _ _ hr5).mono ?_; rintro e w6 ⟨rfl, h6, s6⟩; have H6 := Lib.hid (H5.out.turn h6 s6); have e0 := RLO.c0 H6.out.obj; clear h6 s6 hr5)
        | (go_at_call 57; refine (CT _ _ _ _ H6.out).mono ?_; rintro e w7 ⟨rfl, h7⟩; have H7 := Lib.hid h7; have f0 := RLO.c0 H7.out.obj; clear h7))
    clear CH CW CS CT c0 d0 e0
    go_wp2
    go_ret
    exact ⟨by rw [HH2.out]; rfl, by rw [HH2.out]; exact H7.out⟩

/-- a new log of the reference, or none -/
def RNewLog (r n : Nat) (a : Value) (E : Int) (w w' : World) : Prop := (E = 0 ∧ ∃ q, a = .pointer (some ⟨q, 0, none⟩) ∧ w.heap.size ≤ q ∧ w'.heap[q]? = some (RLO r n (.slice none 0 0) false)) ∨ (E ≠ 0 ∧ a = .pointer none)
set_option maxRecDepth 100000 in
set_option maxHeartbeats 2000000 in
theorem rformat_any (h : RefAt r base s zs v0 v1 v2 kp w) (hk : s.Ok) (hm : s.made < 900000000) (n : Int) (hn : I64 n) :
    Calls Tryz.prog 52 #[.pointer (some ⟨r, 0, none⟩), .int .i64 n] w fun e w' => ∃ a, e = .returned (.tuple #[a, .int .i64 (formE s n)]) ∧ RNewLog r n.toNat a (formE s n) w w' ∧ (∃ v1' kp', RefAt r base (formD s n) zs v0 v1' v2 kp' w') ∧ Stir (RF r v0) w w' := by
  obtain ⟨a0, c00, rfl⟩ := row_shape h.st
  have c0 := RO.c0 h.obj
  obtain ⟨E, hE⟩ : ∃ E, formE s n = E := ⟨_, rfl⟩
  obtain ⟨D, hD⟩ : ∃ D, formD s n = D := ⟨_, rfl⟩
  rw [hE, hD]
  have hle := hk.le
  have HD := Lib.hid h
  by_cases hbad : s.stay.length < 5 ∨ n < 0 ∨ 1099511627776 < n
  · obtain rfl : 70 = E := by rw [← hE, formE, if_pos hbad]
    obtain rfl : s = D := by rw [← hD, formD, if_pos hbad]
    obtain ⟨N, hN⟩ : ∃ N, s.stay.length = N := ⟨_, rfl⟩
    rw [hN] at c0 hbad hle
    clear h hE hD hN
    have h3 : N < 5 ∨ (¬ N < 5 ∧ n < 0) ∨ (¬ N < 5 ∧ ¬ n < 0 ∧ 1099511627776 < n) := by omega
    clear hbad
    rcases h3 with h3 | ⟨h3, h4⟩ | ⟨h3, h4, h5⟩
    all_goals (
      go_enter Tryz.func52, Tryz.ntmps52
      go_wp2
      go_ret2
      exact ⟨_, rfl, .inr ⟨by decide, rfl⟩, ⟨_, _, HD.out⟩, Stir.refl _ _⟩)
  · have h3 : ¬ (s.stay.length : Int) < 5 ∧ ¬ n < 0 ∧ ¬ 1099511627776 < n := by omega
    obtain ⟨h3, h4, h5⟩ := h3
    have hE' : E = (heads n.toNat 0 s).1 := by rw [← hE, formE, if_neg hbad]
    have hD' : D = (heads n.toNat 0 s).2 := by rw [← hD, formD, if_neg hbad]
    obtain ⟨N, hN⟩ : ∃ N : Nat, n = (N : Int) := ⟨n.toNat, by omega⟩
    subst hN
    rw [Int.toNat_natCast] at hE' hD' ⊢
    obtain ⟨w1, hw1⟩ : ∃ w1, w.alloc (RLO r N (.slice none 0 0) false) = w1 := ⟨_, rfl⟩
    have hB1 : Below w.heap.size w w1 := by rw [← hw1]; exact (Below.refl _ w).alloc (Nat.le_refl _) _
    have hr1 : RD w.heap.size r N base (.slice none 0 0) false s zs (.slice a0 s.stay.length c00) v2 w1 w1 := ⟨by rw [← hw1]; exact heap_alloc_new _ _, ⟨_, _, h.below hB1⟩, Stir.refl _ _⟩
    have CX := rheads_any hr1 hk hm (g := N) (used := 0) (by omega) (by omega)
    rw [← hE', ← hD'] at CX
    have hdd : E = 0 → headsDead N 0 s false = false := fun e => by unfold headsDead; rw [← hE', e]; rfl
    have HDd := Lib.hid hdd
    have HB1 := Lib.hid hB1
    have hNle : N ≤ 1099511627776 := by omega
    generalize s.stay.length = M at *
    unfold RLO at hw1
    clear h hE hD hE' hD' hbad hB1 hr1 hdd
    by_cases hE0 : E = 0
    · subst hE0
      go_enter Tryz.func52, Tryz.ntmps52
      go_wp2_with fail
      refine CX.mono ?_
      rintro e w2 ⟨rfl, h2⟩
      rw [HDd.out (by trivial)] at h2
      have H2 := Lib.hid h2
      have HS := Lib.hid (show Stir (RF r (.slice a0 M c00)) w w2 from (Stir.of_below HB1.out).trans h2.stir (fun i e => by
        rcases e with e | e
        · right; omega
        · exact .inl e))
      clear h2 CX
      go_wp2
      go_ret2
      exact ⟨_, rfl, .inl ⟨rfl, _, rfl, Nat.le_refl _, H2.out.obj⟩, H2.out.ref, HS.out⟩
    · have hEb : (E != 0) = true := by simpa using hE0
      have HE0 := Lib.hid hE0
      clear hE0
      go_enter Tryz.func52, Tryz.ntmps52
      go_wp2_with fail
      refine CX.mono ?_
      rintro e w2 ⟨rfl, h2⟩
      have H2 := Lib.hid h2
      have HS := Lib.hid (show Stir (RF r (.slice a0 M c00)) w w2 from (Stir.of_below HB1.out).trans h2.stir (fun i e => by
        rcases e with e | e
        · right; omega
        · exact .inl e))
      clear h2 CX
      go_wp2
      go_ret2
      exact ⟨_, rfl, .inr ⟨HE0.out, rfl⟩, H2.out.ref, HS.out⟩
end
end Go.Proofs.YteboacjniokfpaaGreatDoor

