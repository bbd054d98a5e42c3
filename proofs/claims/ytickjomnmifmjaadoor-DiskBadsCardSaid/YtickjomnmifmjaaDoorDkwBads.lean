/-
  A bad sector is neither read nor written, its bytes stay, and it is as it was when it is good again; all others are not touched by it: for every number of sectors (cut to 1 to 40), every sector and every byte.
  Conditions: none besides the row's own.
-/
import Derived.Test.YtickjomnmifmjaaDoorDskR
namespace Go.Proofs.YtickjomnmifmjaaDoor.bads
open Go.ChangeShapes Go.WideShapes Go.ChangeAt Go.RowKit Go Go.Maps SM

/-- a bad sector -/
def DSb (s : DS) (j : Int) : DS := { s with bad := fun i => if i = j then true else s.bad i }
section
variable {n k : Nat} {s : DS} {j : Int}
theorem bad_is (h : Calm n k s) (h0 : 0 ≤ j) (h1 : j < n) : s.setBad j true = DSb s j := by
  have e : s.may j = 0 := by rw [h.may, if_neg (by omega)]
  unfold DS.setBad
  rw [if_pos e]
  rfl
theorem b_may (h : Calm n k s) {i : Int} (h0 : 0 ≤ i) (h1 : i < n) : (DSb s j).may i = 0 := by
  have : (DSb s j).may i = s.may i := rfl
  rw [this, h.may, if_neg (by omega)]
theorem b_writeE (h : Calm n k s) (h0 : 0 ≤ j) (h1 : j < n) {x : ByteArray} (hx : x.size = 64) : (DSb s j).writeE j x = 3 := by
  unfold DS.writeE
  rw [b_may h h0 h1]
  simp [hx, DSb]
theorem b_write (s : DS) (j : Int) (x : ByteArray) : (DSb s j).write j x = DSb s j := by
  simp [DS.write, DS.fits, DSb]
theorem b_syncE (h : Calm n k s) : (DSb s j).syncE = 0 := by
  simp [DS.syncE, DSb, h.dead, h.armed]
theorem b_sync (h : Calm n k s) : (DSb s j).sync = DSb s.sync j := by
  rw [h.sync_is]
  simp [DS.sync, DSb, h.dead, h.armed, DS.tick, DS.settled]
theorem b_readE (h : Calm n k s) {i : Int} (h0 : 0 ≤ i) (h1 : i < n) : (DSb s j).readE i = if i = j then 3 else 0 := by
  unfold DS.readE
  rw [b_may h h0 h1]
  simp [DSb, h.bad]
theorem b_good (h : Calm n k s) (h0 : 0 ≤ j) (h1 : j < n) : (DSb s j).setBad j false = s := by
  unfold DS.setBad
  rw [b_may h h0 h1]
  have : (fun k => if k = j then false else (DSb s j).bad k) = s.bad := by
    funext i
    rw [h.bad]
    by_cases e : i = j <;> simp [e, DSb, h.bad]
  rw [if_pos rfl, this]
  rfl
end

def xb (c : Int) (i : Nat) : ByteArray := sec (byteOf ((c + (i : Int)) % 256)) 0

set_option maxRecDepth 100000 in
set_option maxHeartbeats 4000000 in
theorem walk (n0 at0 c : Int) (w : World) (_r0 : IntOk n0) (_r1 : IntOk at0) (hc : ByteOk c) :
    Calls Tryd.prog 8 #[.int .i64 n0, .int .i64 at0, .int .u8 c] w fun r w' => r = .returned (.bool true) ∧ Below w.heap.size w w' := by
  obtain ⟨P, n, ⟨p1, p2, p3⟩, ⟨q1, q2, q3⟩, hn1, hn2⟩ := clampN n0
  have HN := Lib.hid (And.intro hn1 hn2)
  have N1 := fun w => new_yes n hn1 (by omega) w
  have CS : ∀ (z : Int) (i : Nat) w, z = (c + (i : Int)) % 256 → Calls Tryd.prog 21 #[.int .u8 z, .int .i64 0] w fun e w' => e = .returned (.string (xb c i)) ∧ Below w.heap.size w w' := by
    rintro z i w rfl
    exact sector_int _ ⟨by omega, by omega⟩ 0 w
  have C1 : ∀ w, Calls Tryd.prog 21 #[.int .u8 1, .int .i64 0] w fun e w' => e = .returned (.string (sec 1 0)) ∧ Below w.heap.size w w' := fun w => sector_any 1 0 w
  have xs64 : ∀ i, (xb c i).size = 64 := fun i => by rw [xb, size_sec]; rfl
  have X64 := Lib.hid xs64
  obtain ⟨z, hz, hz2⟩ := and_to 65535 (by omega) at0
  obtain ⟨kk, hkk⟩ : ∃ kk : Nat, kk = z % n := ⟨_, rfl⟩
  have hkn : kk < n := by rw [hkk]; exact Nat.mod_lt _ hn1
  have hk1 : (z : Int) % (n : Int) = (kk : Int) := by rw [hkk]; omega
  have hk2 : (z : Int).tmod (n : Int) = (kk : Int) := by rw [Int.tmod_eq_emod_of_nonneg (by omega)]; exact hk1
  have hz' : bits .and .i64 at0 65535 = (z : Int) := hz
  have HK := Lib.hid hkn
  have HC := Lib.hid hc
  clear hkk hkn hz hz2 hn1 hn2 xs64 hc
  go_enter Tryd.func8, Tryd.ntmps8
  go_wp2_with fail
  refine (N1 _).mono ?_
  rintro e w1 ⟨b, g, m, rfl, h1, ho, hB1⟩
  have H1 := Lib.hid h1
  have HO := Lib.hid (show Over w.heap.size b g m from ho)
  have HB1 := Lib.hid hB1
  clear h1 ho hB1 N1 p1 p2 p3 q1 q2 q3
  go_wp2_with fail
  go_loopw [10] (fun i wr => ∃ (k : Nat) (s : DS), k ≤ n ∧ i = .int .i64 k ∧ Calm n k s ∧ (∀ i < k, s.look (i : Int) = xb c i) ∧ DiskAt b g m s wr ∧ Below w.heap.size w wr) (fun i _ => n - (intOf i).toNat)
  case atStart => exact ⟨0, _, Nat.zero_le _, rfl, calm_fresh HN.out.1 (by have := HN.out.2; omega), fun i hi => by omega, H1.out, HB1.out⟩
  case round =>
    obtain ⟨k, s, hkn, rfl, hc, hl, hd, hB⟩ := hrel
    have HCm := Lib.hid hc
    have HL := Lib.hid hl
    have HD := Lib.hid hd
    have HB := Lib.hid hB
    have hn40 := HN.out.2
    clear hc hl hd hB H1 HB1
    by_cases hlt : k < n
    · clear hk1 hk2 hz'
      go_wp2_with fail
      refine (CS _ k _ (by have := HC.out.1; have := HC.out.2; first | rfl | omega)).mono ?_
      rintro e w2 ⟨rfl, hB2⟩
      have HD2 := Lib.hid (HD.out.below hB2)
      have HB2 := Lib.hid (HB.out.trans (hB2.mono HB.out.size))
      have C := write_any HD2.out (by have := HCm.out.made; omega) (k : Int) ⟨by omega, by omega⟩ (xb c k)
      rw [HCm.out.writeE_is _ (X64.out k), if_neg (by omega), HCm.out.write_is, if_pos ⟨⟨by omega, by omega⟩, X64.out k⟩] at C
      have hc2 := HCm.out.write (k : Int) (xb c k)
      rw [HCm.out.write_is, if_pos ⟨⟨by omega, by omega⟩, X64.out k⟩] at hc2
      have HC2 := Lib.hid hc2
      clear hB2 hc2
      go_wp2_with fail
      refine C.mono ?_
      rintro e w3 ⟨rfl, hd3, hs3⟩
      have HD3 := Lib.hid hd3
      have HB3 := Lib.hid (step_below HB2.out hs3 HO.out HB2.out.size)
      clear hd3 hs3 C
      go_wp2
      go_roundw
      case rel =>
        refine ⟨k + 1, _, by omega, by go_num, HC2.out, fun i hi => ?_, HD3.out, HB3.out⟩
        rw [look_lays]
        by_cases e : i = k
        · subst e; simp
        · rw [if_neg (by omega)]; exact HL.out i (by omega)
      case measure => simp [intOf]; omega
    · obtain rfl : n = k := by omega
      have hkk := HK.out
      have i6 : I64 (kk : Int) := ⟨by omega, by omega⟩
      have D1 : ∀ W, DiskAt b g m s W → Calls Tryd.prog 25 #[.pointer (some ⟨b, 0, none⟩), .int .i64 kk, .bool true] W fun e w' => e = .returned (.int .i64 0) ∧ DiskAt b g m (DSb s kk) w' ∧ Stir (Foot b g m) W w' := fun W h => by
        have := bad_any h kk i6 true
        rw [HCm.out.may, if_neg (by omega), bad_is HCm.out (by omega) (by omega)] at this
        exact this
      have W1 : ∀ W, DiskAt b g m (DSb s kk) W → Calls Tryd.prog 20 #[.pointer (some ⟨b, 0, none⟩), .int .i64 kk, .string (sec 1 0)] W fun e w' => e = .returned (.int .i64 3) ∧ DiskAt b g m (DSb s kk) w' ∧ Stir (Foot b g m) W w' := fun W h => by
        have := write_any h (by have := HCm.out.made; show s.made < _; omega) kk i6 (sec 1 0)
        rw [b_writeE HCm.out (by omega) (by omega) (by rw [size_sec]; rfl), b_write] at this
        exact this
      have S1 : ∀ W, DiskAt b g m (DSb s kk) W → Calls Tryd.prog 23 #[.pointer (some ⟨b, 0, none⟩)] W fun e w' => e = .returned (.int .i64 0) ∧ DiskAt b g m (DSb s.sync kk) w' ∧ Stir (Foot b g m) W w' := fun W h => by
        have := sync_any h (by have := HCm.out.made; show s.made < _; omega)
        rw [b_syncE HCm.out, b_sync HCm.out] at this
        exact this
      have hcs := HCm.out.sync
      have hlk : ∀ i : Nat, i < n → s.sync.look i = xb c i := fun i hi => by rw [HCm.out.sync_look hi]; exact HL.out i hi
      have R1 : ∀ (i : Nat) W, i < n → DiskAt b g m (DSb s.sync kk) W → Calls Tryd.prog 18 #[.pointer (some ⟨b, 0, none⟩), .int .i64 i] W fun e w' => e = .returned (if i = kk then .tuple #[.string ⟨#[]⟩, .int .i64 3] else .tuple #[.string (xb c i), .int .i64 0]) ∧ Below W.heap.size W w' := fun i W hi h => by
        have := read_any h (i : Int) ⟨by omega, by omega⟩
        unfold DS.readS at this
        rw [b_readE hcs (by omega) (by omega)] at this
        by_cases e : i = kk
        · rw [if_pos e]; rw [show (if (i : Int) = (kk : Int) then (3 : Int) else 0) = 3 from if_pos (by omega), if_neg (by decide)] at this; exact this
        · rw [if_neg e]; rw [show (if (i : Int) = (kk : Int) then (3 : Int) else 0) = 0 from if_neg (by omega), if_pos rfl, show (DSb s.sync kk).look i = xb c i from hlk i hi] at this; exact this
      have D2 : ∀ W, DiskAt b g m (DSb s.sync kk) W → Calls Tryd.prog 25 #[.pointer (some ⟨b, 0, none⟩), .int .i64 kk, .bool false] W fun e w' => e = .returned (.int .i64 0) ∧ DiskAt b g m s.sync w' ∧ Stir (Foot b g m) W w' := fun W h => by
        have := bad_any h kk i6 false
        rw [b_may hcs (by omega) (by omega), b_good hcs (by omega) (by omega)] at this
        exact this
      have R2 : ∀ W, DiskAt b g m s.sync W → Calls Tryd.prog 18 #[.pointer (some ⟨b, 0, none⟩), .int .i64 kk] W fun e w' => e = .returned (.tuple #[.string (xb c kk), .int .i64 0]) ∧ Below W.heap.size W w' := fun W h => by
        have := read_any h (kk : Int) i6
        rw [hcs.readE_is (by omega) (by omega), hcs.readS_is (by omega) (by omega), hlk kk hkk] at this
        exact this
      have hnp : 0 < (n : Int) := by have := HN.out.1; omega
      have hn0 : ((n : Int) == 0) = false := beq_eq_false_iff_ne.2 (by omega)
      clear hcs hlk i6 hkk hlt
      go_wp2_with fail
      refine (D1 _ HD.out).mono ?_
      rintro e w2 ⟨rfl, hd, hs⟩
      have HD2 := Lib.hid hd
      have HB2 := Lib.hid (step_below HB.out hs HO.out HB.out.size)
      clear hd hs D1 hk1 hk2 hz'
      go_wp2_with fail
      refine (C1 _).mono ?_
      rintro e w3 ⟨rfl, hB3⟩
      have HD3 := Lib.hid (HD2.out.below hB3)
      have HB3 := Lib.hid (HB2.out.trans (hB3.mono HB2.out.size))
      clear hB3
      go_wp2_with fail
      refine (W1 _ HD3.out).mono ?_
      rintro e w4 ⟨rfl, hd, hs⟩
      have HD4 := Lib.hid hd
      have HB4 := Lib.hid (step_below HB3.out hs HO.out HB3.out.size)
      clear hd hs W1
      go_wp2_with fail
      refine (S1 _ HD4.out).mono ?_
      rintro e w5 ⟨rfl, hd, hs⟩
      have HD5 := Lib.hid hd
      have HB5 := Lib.hid (step_below HB4.out hs HO.out HB4.out.size)
      clear hd hs S1
      go_wp2_with fail
      go_loopw [12] (fun i wr => ∃ i0 : Nat, i0 ≤ n ∧ i = .int .i64 i0 ∧ DiskAt b g m (DSb s.sync kk) wr ∧ Below w.heap.size w wr) (fun i _ => n - (intOf i).toNat)
      case atStart => exact ⟨0, Nat.zero_le _, rfl, HD5.out, HB5.out⟩
      case round =>
        obtain ⟨i0, hi0, rfl, hd, hB⟩ := hrel
        have HD6 := Lib.hid hd
        have HB6 := Lib.hid hB
        clear hd hB HD5 HB5
        by_cases hin : i0 < n
        · have R := R1 i0 _ hin HD6.out
          by_cases e : i0 = kk
          · rw [if_pos e] at R
            subst e
            go_wp2_with fail
            refine R.mono ?_
            rintro e w7 ⟨rfl, hB7⟩
            have HD7 := Lib.hid (HD6.out.below hB7)
            have HB7 := Lib.hid (HB6.out.trans (hB7.mono HB6.out.size))
            clear hB7 R R1
            go_wp2
            go_roundw
            case rel => exact ⟨i0 + 1, by omega, by go_num, HD7.out, HB7.out⟩
            case measure => simp [intOf]; omega
          · rw [if_neg e] at R
            have hne2 : ¬ (i0 : Int) = (kk : Int) := by omega
            have hne : ((i0 : Int) == (kk : Int)) = false := beq_eq_false_iff_ne.2 hne2
            go_wp2_with fail
            refine R.mono ?_
            rintro e w7 ⟨rfl, hB7⟩
            have HD7 := Lib.hid (HD6.out.below hB7)
            have HB7 := Lib.hid (HB6.out.trans (hB7.mono HB6.out.size))
            clear hB7 R R1
            go_wp2_with fail
            refine (CS _ i0 _ (by have := HC.out.1; have := HC.out.2; first | rfl | omega)).mono ?_
            rintro e w8 ⟨rfl, hB8⟩
            have HD8 := Lib.hid (HD7.out.below hB8)
            have HB8 := Lib.hid (HB7.out.trans (hB8.mono HB7.out.size))
            clear hB8
            go_wp2
            go_roundw
            case rel => exact ⟨i0 + 1, by omega, by go_num, HD8.out, HB8.out⟩
            case measure => simp [intOf]; omega
        · go_wp2_with fail
          refine (D2 _ HD6.out).mono ?_
          rintro e w7 ⟨rfl, hd, hs⟩
          have HD7 := Lib.hid hd
          have HB7 := Lib.hid (step_below HB6.out hs HO.out HB6.out.size)
          clear hd hs D2
          go_wp2_with fail
          refine (R2 _ HD7.out).mono ?_
          rintro e w8 ⟨rfl, hB8⟩
          have HB8 := Lib.hid (HB7.out.trans (hB8.mono HB7.out.size))
          have hkb := HK.out
          clear hB8
          go_wp2_with fail
          refine (CS _ kk _ (by have := HC.out.1; have := HC.out.2; first | rfl | omega)).mono ?_
          rintro e w9 ⟨rfl, hB9⟩
          have HB9 := Lib.hid (HB8.out.trans (hB9.mono HB8.out.size))
          clear hB9
          go_wp2_with fail
          refine (fixed_any _).mono ?_
          rintro e w10 ⟨rfl, hB10⟩
          have HB10 := Lib.hid (HB9.out.trans (hB10.mono HB9.out.size))
          clear hB10
          go_wp2
          go_ret
          exact ⟨rfl, HB10.out⟩
set_option maxRecDepth 100000 in
/-- WHAT THE WALK GIVES, for every argument that can be read. -/
theorem contract (H : Type) (enc : TypeId × Value → H) (W : World) (base : Nat) (args : Array Value) (ds gs : List (DataW H)) (before : List MemPlace)
    (hval : ∀ (j : Nat) t v, Tryd.f8.params[j]? = some t → args[j]? = some v → Value.okWide Tryd.prog W .any base t v)
    (hW : DataW.Whole enc Tryd.prog Tryd.f8.params.toList Rows.diskBadsSpec.vars false W args.toList ds gs before)
    (hreach : (DataW.weightsEach Tryd.prog (Tryd.f8.params.toList) ds).all (· ≤ reachBytes) = true) :
    Calls Tryd.prog 8 args W fun e W' => ∃ v, e = .returned v ∧ Rows.diskBadsSpec.post enc Tryd.prog Tryd.f8 false true false false W args v W' := by
  have hW' := hW
  obtain ⟨p, q, hA0, hV, rfl, hfz, hnd⟩ := hW
  have hA : DataW.TrodAll enc Tryd.prog W 0 (fun _ => true) true Tryd.f8.params.toList args.toList ds p := hA0
  rw [Tryd.params8] at hA hval hreach
  obtain ⟨v0, v1, v2, d0, d1, d2, p0, p1, p2, rfl, rfl, rfl, h0, h1, h2⟩ := trodAll_three hA
  obtain ⟨rfl, rfl⟩ := trodVars_none hV
  obtain ⟨n0, rfl, rfl, rfl, wn0⟩ := open_int Tryd.underlying3 (hval 0 3 v0 rfl rfl) h0
  have r0 := int_range wn0
  obtain ⟨n1, rfl, rfl, rfl, wn1⟩ := open_int Tryd.underlying3 (hval 1 3 v1 rfl rfl) h1
  have r1 := int_range wn1
  obtain ⟨n2, rfl, rfl, rfl, wn2⟩ := open_int Tryd.underlying5 (hval 2 5 v2 rfl rfl) h2
  have r2 := byte_range wn2
  clear hA0 hval
  simp only [List.append_nil] at hW'
  refine (walk n0 n1 n2 W r0 r1 r2).mono fun e W' ⟨he, hB⟩ => ?_
  subst he
  exact ⟨_, rfl, post_of_below (pa := [] ++ ([] ++ ([]))) (pv := []) hW' (fun _ _ _ => trodAll_mk1 (shut_bool Tryd.underlying4 _)) (fun sp hsp => trodAll_mk3 (shut_int Tryd.underlying3 wn0) (shut_int Tryd.underlying3 wn1) (shut_int Tryd.underlying5 wn2)) (fun _ _ => rfl) (by simp) hB (ok_one (by kernel_rfl) rfl (okWide_bool_mk Tryd.underlying4 _))⟩

theorem reads (os : Os) {H : Type} (enc : TypeId × Value → H) : ∃ places, DataW.whole enc Tryd.prog ((laidWorld os).forCall (fun _ _ => 0) ⟨#[], #[.int .i64 0, .int .i64 0, .int .u8 0], []⟩).memory Tryd.f8.params.toList Rows.diskBadsSpec.vars false (#[.int .i64 0, .int .i64 0, .int .u8 0] : Array Value).toList 8 = some ([.lit (.int .i64 0), .lit (.int .i64 0), .lit (.int .u8 0)], [], places) :=
  ⟨[], by kernel_rfl⟩

set_option maxRecDepth 100000 in
theorem lifted (os : Os) (started : os.Started) (H : Type) (enc : TypeId × Value → H) (F : Stop.Interp) :
    ReturnsInHanded {} Tryd.checked os 8 .any ((OpenSpec.ofChange Rows.diskBadsSpec).preRow enc Tryd.prog Tryd.f8 Rows.diskBadsRow.domain false Rows.diskBadsRow.laid) (((OpenSpec.ofChange Rows.diskBadsSpec).at F).post enc Tryd.prog Tryd.f8 false true false false) := by
  obtain ⟨places, hx⟩ := reads os enc
  refine returnsInHanded_of_row (C := Tryd.checked) (s := OpenSpec.ofChange Rows.diskBadsSpec) own started (by kernel_rfl) Tryd.func8
    (witness_row_at (enc := enc) (C := Tryd.checked) false (laidWorld os) #[.int .i64 0, .int .i64 0, .int .u8 0] rfl (by kernel_rfl) (by kernel_rfl) (by kernel_rfl)
      (OpenSpec.preRow_of_cond 8 hx (by kernel_rfl) (fun k hk => by cases hk) (by kernel_rfl) (laid_met os _))) ?_
  intro W base args ds gs before hval hW _ hcond hreach hL _ _
  obtain ⟨p, q, hA0, hV, hpq, hfz, hnd⟩ := id hW
  obtain ⟨rfl, _⟩ := trodVars_none hV
  rw [List.append_nil] at hreach
  exact contract H enc W base args ds [] before hval hW hreach

theorem said : Rows.DiskBadsSaid :=
  OpenClaim.holds_of_cond 8 Tryd.f8 rfl rfl rfl rfl rfl rfl rfl ⟨rfl, rfl, rfl, rfl, rfl⟩ rfl rfl rfl rfl rfl (by kernel_rfl) Tryd.func8 (by kernel_rfl)
    (of_decide_eq_true (by kernel_rfl)) (by unfold Func.isWrapper; first | (rw [if_pos (by decide +kernel)]; kernel_rfl) | (rw [if_neg (by decide +kernel)]; exact ⟨rfl, rfl⟩))
    (fun os started H enc _ F => by rw [OpenClaim.pre_eq_preRow]; exact lifted os started H enc F)

theorem plain (f : FuncId) (fn : Func) (hf : Tryd.pinned.checked.prog.funcNamed "stillage/stillagelaw06.DiskBads" = some f) (hfn : Tryd.pinned.checked.prog.funcs[f]? = some fn) :
    true = Tryd.pinned.checked.prog.looks [] ∧ ∀ (j : Nat) t, fn.params[j]? = some t → Tryd.pinned.checked.prog.wantsStandIn t = false := by
  obtain rfl : f = 8 := Option.some.inj ((show Tryd.prog.funcNamed "stillage/stillagelaw06.DiskBads" = some 8 by kernel_rfl).symm.trans hf) |>.symm
  obtain rfl : fn = Tryd.f8 := (Option.some.inj (Tryd.func8.symm.trans hfn)).symm
  refine ⟨by kernel_rfl, fun j t ht => ?_⟩
  rw [Tryd.params8] at ht
  have hm : t ∈ [3, 3, 5] := by simpa using Array.mem_of_getElem? ht
  have hall : ([3, 3, 5].all fun u => !Tryd.prog.wantsStandIn u) = true := by kernel_rfl
  exact (show Tryd.prog.wantsStandIn t = false by simpa using List.all_eq_true.1 hall t hm)

/-- THE CARD -/
theorem card : Rows.DiskBadsCardSaid :=
  Claim7.holds_tied_plain_at .later [] _ _ _ _ said (fun _ h => by cases h) (by kernel_rfl) (fun _ h => by cases h) diskBads_row_tie rfl ⟨rfl, rfl⟩ (by kernel_rfl) rfl plain (by kernel_rfl)


end Go.Proofs.YtickjomnmifmjaaDoor.bads
