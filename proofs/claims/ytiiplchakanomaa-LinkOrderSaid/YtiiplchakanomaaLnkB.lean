/-
  A fate; one byte turned; what comes at once; Send.
-/
import Derived.Test.YtiiplchakanomaaLnkA
import Derived.Test.YtiiplchakanomaaLnkS
import Derived.Lib.ConvBytes
import Derived.Deep.RegionLaw
import Derived.Lib.Hide
namespace Go.Proofs.Ytiiplchakanomaa
open Go.RowKit Go

def fteV (f : Fte) : Value := .agg #[.int .i64 f.kind, .int .i64 f.n, .int .u8 (f.mask.toNat : Int)]
def fteO (f : Fte) : Obj := .cells #[.int .i64 f.kind, .int .i64 f.n, .int .u8 (f.mask.toNat : Int)] 34 (0, 0)
/-- a fate in a variable of its own -/
theorem fte_box (f : Fte) (w : World) : ∃ w1, w.alloc (fteO f) = w1 ∧ Below w.heap.size w w1 ∧ ∀ W, Below w1.heap.size w1 W → W.cell? ⟨w.heap.size, 0, none⟩ = some (.int .i64 f.kind) ∧ W.cell? ⟨w.heap.size, 1, none⟩ = some (.int .i64 f.n) ∧ W.cell? ⟨w.heap.size, 2, none⟩ = some (.int .u8 (f.mask.toNat : Int)) := by
  refine ⟨_, rfl, (Below.refl _ w).alloc (Nat.le_refl _) _, fun W hB => ?_⟩
  have h := keeps_of hB (heap_alloc_new w (fteO f))
  unfold fteO at h
  refine ⟨?_, ?_, ?_⟩ <;> simp [World.cell?, h]
set_option maxRecDepth 100000 in
set_option maxHeartbeats 1000000 in
theorem may_any (f : Fte) (w : World) :
    Calls Try.prog 18 #[fteV f] w fun e w' => e = .returned (.bool (mayV f)) ∧ Below w.heap.size w w' := by
  obtain ⟨w1, hw1, hB, hc⟩ := fte_box f w
  obtain ⟨c0, c1, -⟩ := hc w1 (Below.refl _ _)
  have HB := Lib.hid hB
  have HM := Lib.hid (show mayV f = (f.kind == 0 || f.kind == 1 || f.kind == 2 || (f.kind == 3 && decide (1 ≤ f.n) && decide (f.n ≤ 8)) || (f.kind == 4 && decide (0 ≤ f.n))) from rfl)
  obtain ⟨M, hM⟩ : ∃ M, mayV f = M := ⟨_, rfl⟩
  rw [hM] at HM ⊢
  obtain ⟨K, n, m⟩ := f
  simp only at c0 c1 HM
  unfold fteV
  unfold fteO at hw1
  clear hB hc hM
  by_cases h0 : K = 0
  · subst h0
    go_enter Try.func18, Try.ntmps18
    go_wp2
    go_ret
    exact ⟨by rw [HM.out]; rfl, HB.out⟩
  by_cases h1 : K = 1
  · subst h1
    go_enter Try.func18, Try.ntmps18
    go_wp2
    go_ret
    exact ⟨by rw [HM.out]; rfl, HB.out⟩
  by_cases h2 : K = 2
  · subst h2
    go_enter Try.func18, Try.ntmps18
    go_wp2
    go_ret
    exact ⟨by rw [HM.out]; rfl, HB.out⟩
  by_cases h3 : K = 3
  · subst h3
    clear h0 h1 h2
    by_cases n1 : 1 ≤ n
    · by_cases n8 : n ≤ 8
      · have HR := Lib.hid (show M = true by rw [HM.out]; simp [n1, n8])
        go_enter Try.func18, Try.ntmps18
        go_wp2
        go_ret
        exact ⟨by rw [HR.out]; rfl, HB.out⟩
      · have HR := Lib.hid (show M = false by rw [HM.out]; simp [n1, n8])
        go_enter Try.func18, Try.ntmps18
        go_wp2
        go_ret
        exact ⟨by rw [HR.out]; rfl, HB.out⟩
    · have HR := Lib.hid (show M = false by rw [HM.out]; simp [n1])
      go_enter Try.func18, Try.ntmps18
      go_wp2
      go_ret
      exact ⟨by rw [HR.out]; rfl, HB.out⟩
  by_cases h4 : K = 4
  · subst h4
    clear h0 h1 h2 h3
    by_cases n0 : 0 ≤ n
    · have HR := Lib.hid (show M = true by rw [HM.out]; simp [n0])
      go_enter Try.func18, Try.ntmps18
      go_wp2
      go_ret
      exact ⟨by rw [HR.out]; rfl, HB.out⟩
    · have HR := Lib.hid (show M = false by rw [HM.out]; simp [n0])
      go_enter Try.func18, Try.ntmps18
      go_wp2
      go_ret
      exact ⟨by rw [HR.out]; rfl, HB.out⟩
  have k0 : (K == 0) = false := beq_eq_false_iff_ne.2 h0
  have k1 : (K == 1) = false := beq_eq_false_iff_ne.2 h1
  have k2 : (K == 2) = false := beq_eq_false_iff_ne.2 h2
  have k3 : (K == 3) = false := beq_eq_false_iff_ne.2 h3
  have k4 : (K == 4) = false := beq_eq_false_iff_ne.2 h4
  have HR := Lib.hid (show M = false by rw [HM.out, k0, k1, k2, k3, k4]; rfl)
  clear h0 h1 h2 h3 h4
  go_enter Try.func18, Try.ntmps18
  go_wp2
  go_ret
  exact ⟨by rw [HR.out]; rfl, HB.out⟩

/-! ### One byte turned -/
theorem wrap8 (n : Nat) (h : n < 256) : IntKind.u8.wrap (n : Int) = (n : Int) := by
  simp [IntKind.wrap, IntKind.bits, IntKind.signed]; omega
theorem xor8 (x y : UInt8) : bits .xor .u8 (x.toNat : Int) (y.toNat : Int) = ((x ^^^ y).toNat : Int) := by
  have h : ∀ z : UInt8, BitVec.ofInt 8 (z.toNat : Int) = z.toBitVec := fun z => by
    apply BitVec.eq_of_toNat_eq
    rw [BitVec.toNat_ofInt]
    have := z.toNat_lt
    simp
    omega
  show IntKind.u8.wrap ((BitVec.ofInt 8 _ ^^^ BitVec.ofInt 8 _).toNat : Int) = _
  rw [h, h]
  rw [wrap8 _ (BitVec.isLt _)]
  rfl
theorem below_bytesW (w : World) (e : TypeId) (x : ByteArray) : Below w.heap.size w (Lib.bytesWorld w e x) := by
  have hs : (Lib.bytesWorld w e x).heap.size = w.heap.size + 1 := by simp [Lib.bytesWorld, World.freeze]
  exact ⟨rfl, rfl, rfl, by omega, fun k hk => Lib.bytesWorld_at_old w e x k hk⟩
/-- a text's bytes, one of them turned, and the text of these -/
theorem byte_turned (S : ByteArray) (k : Nat) (hk : k < S.size) (m : UInt8) (w : World) : ∃ (cap : Nat) (y v : UInt8) (w5 w6 : World),
    (convert 9 48 (.string S)).run Try.prog w = .ok (.slice (some ⟨w.heap.size, 0, none⟩) S.size cap) w5 ∧ w5.cell? ⟨w.heap.size, k, none⟩ = some (.int .u8 (y.toNat : Int)) ∧ w5.frozen? ⟨w.heap.size, k, none⟩ = false ∧ bits .xor .u8 (y.toNat : Int) (m.toNat : Int) = (v.toNat : Int) ∧
    w5.setCell ⟨w.heap.size, k, none⟩ (.int .u8 (v.toNat : Int)) = w6 ∧ (convert 48 9 (.slice (some ⟨w.heap.size, 0, none⟩) S.size cap)).run Try.prog w6 = .ok (.string ⟨(S.data.toList.set k v).toArray⟩) w6 ∧ y = S.data.toList.getD k 0 ∧ v = y ^^^ m ∧ Below w.heap.size w w5 ∧ Below w.heap.size w w6 := by
  have len_of : ∀ s : ByteArray, s.data.toList.length = s.size := fun s => by simp
  have hcv := Lib.run_convert_string_bytes (P := Try.prog) w 9 48 5 S Try.underlying9 Try.underlying48 Try.underlying5
  have hbc := Lib.bytesWorld_cell w 5 S
  have hbn := Lib.bytesWorld_at_new w 5 S
  have hbs : S.size ≤ (Lib.bytesCells w 5 S).size := by
    unfold Lib.bytesCells
    rw [Array.size_append, Array.size_map]
    exact Nat.le_add_right _ _
  have hB5 := below_bytesW w 5 S
  obtain ⟨cap, hcap⟩ : ∃ cap, grownCap w S.size 0 5 = cap := ⟨_, rfl⟩
  rw [hcap] at hcv
  obtain ⟨bc, hbcs⟩ : ∃ bc, Lib.bytesCells w 5 S = bc := ⟨_, rfl⟩
  rw [hbcs] at hbn hbs
  obtain ⟨w5, hw5⟩ : ∃ w5, Lib.bytesWorld w 5 S = w5 := ⟨_, rfl⟩
  rw [hw5] at hcv hbc hbn hB5
  have hkl : k < S.data.toList.length := by rw [len_of]; exact hk
  obtain ⟨y, hy⟩ : ∃ y, S.data.toList.getD k 0 = y := ⟨_, rfl⟩
  have ck : w5.cell? ⟨w.heap.size, k, none⟩ = some (.int .u8 (y.toNat : Int)) := by
    rw [hbc k hk, ← hy]
  have hfz : w5.frozen? ⟨w.heap.size, k, none⟩ = false := by
    simp [World.frozen?, hbn]
    omega
  obtain ⟨v, hv⟩ : ∃ v, y ^^^ m = v := ⟨_, rfl⟩
  have hxr := xor8 y m
  rw [hv] at hxr
  obtain ⟨w6, hw6⟩ : ∃ w6, w5.setCell ⟨w.heap.size, k, none⟩ (.int .u8 (v.toNat : Int)) = w6 := ⟨_, rfl⟩
  have hB6 : Below w.heap.size w w6 := by
    rw [← hw6]
    exact hB5.setCell (Nat.le_refl _) _
  have hbn6 : w6.heap[w.heap.size]? = some (.cells (bc.setIfInBounds k (.int .u8 (v.toNat : Int))) 5 (bc.size, bc.size + 1)) := by
    rw [← hw6]
    exact heap_set hbn _
  have hcells : ∀ j (hj : j < (S.data.toList.set k v).length), w6.cell? ((⟨w.heap.size, 0, none⟩ : Addr).add j) = some (.int .u8 ((S.data.toList.set k v)[j].toNat : Int)) := fun j hj => by
    rw [List.length_set] at hj
    have hjS : j < S.size := by rw [← len_of]; exact hj
    have hc5 := hbc j hjS
    rw [List.getD_eq_getElem?_getD, List.getElem?_eq_getElem hj, Option.getD_some] at hc5
    have e : (⟨w.heap.size, 0, none⟩ : Addr).add j = ⟨w.heap.size, j, none⟩ := by cases j <;> simp [Addr.add]
    rw [e]
    by_cases h : j = k
    · subst h
      have hjb : j < bc.size := by omega
      simp [World.cell?, hbn6, hjb]
    · rw [List.getElem_set_ne (Ne.symm h)]
      have hc6 : w6.cell? ⟨w.heap.size, j, none⟩ = w5.cell? ⟨w.heap.size, j, none⟩ := by
        simp [World.cell?, hbn6, hbn, Ne.symm h]
      rw [hc6, hc5]
  have hback := run_convert_bytes_back (P := Try.prog) w6 48 9 5 ⟨w.heap.size, 0, none⟩ cap (S.data.toList.set k v) Try.underlying48 Try.underlying5 Try.underlying9 hcells
  rw [List.length_set, len_of] at hback
  exact ⟨cap, y, v, w5, w6, hcv, ck, hfz, hxr, hw6, hback, hy.symm, hv.symm, hB5, hB6⟩
/-- of no bytes -/
theorem byte_none (w : World) : ∃ (cap : Nat) (w5 : World),
    (convert 9 48 (.string ⟨#[]⟩)).run Try.prog w = .ok (.slice (some ⟨w.heap.size, 0, none⟩) 0 cap) w5 ∧ (convert 48 9 (.slice (some ⟨w.heap.size, 0, none⟩) 0 cap)).run Try.prog w5 = .ok (.string ⟨#[]⟩) w5 ∧ Below w.heap.size w w5 := by
  have hcv := Lib.run_convert_string_bytes (P := Try.prog) w 9 48 5 ⟨#[]⟩ Try.underlying9 Try.underlying48 Try.underlying5
  have hB5 := below_bytesW w 5 ⟨#[]⟩
  refine ⟨_, _, hcv, ?_, hB5⟩
  exact run_convert_bytes_back (P := Try.prog) _ 48 9 5 ⟨w.heap.size, 0, none⟩ _ [] Try.underlying48 Try.underlying5 Try.underlying9 (fun j hj => by simp at hj)
/-- a number that goes round -/
theorem rem_to (n : Int) (h : 0 ≤ n) (z : Nat) (hz : 0 < z) : n.tmod (z : Int) = ((n.toNat % z : Nat) : Int) ∧ n % (z : Int) = ((n.toNat % z : Nat) : Int) ∧ n.toNat % z < z := by
  have h1 : n % (z : Int) = ((n.toNat % z : Nat) : Int) := by
    have : n = (n.toNat : Int) := by omega
    rw [this]
    simp
  exact ⟨by rw [Int.tmod_eq_emod_of_nonneg h]; exact h1, h1, Nat.mod_lt _ hz⟩
set_option maxRecDepth 100000 in
set_option maxHeartbeats 1000000 in
theorem turned_any (s : ByteArray) (hs : s.size ≤ 140737488351232) (n : Int) (h0 : 0 ≤ n) (_h9 : n ≤ 9223372036854775807) (m : UInt8) (w : World) :
    Calls Try.prog 27 #[.string s, .int .i64 n, .int .u8 (m.toNat : Int)] w fun e w' => e = .returned (.string (turnB s n m)) ∧ Below w.heap.size w w' := by
  by_cases hz : s.size = 0
  · obtain rfl : s = ⟨#[]⟩ := ByteArray.ext (Array.eq_empty_of_size_eq_zero hz)
    have HT := Lib.hid (show turnB ⟨#[]⟩ n m = ⟨#[]⟩ from rfl)
    obtain ⟨cap, w5, h1, h2, hB⟩ := byte_none w
    have HB := Lib.hid hB
    clear hz hB
    go_enter Try.func27, Try.ntmps27
    go_wp2
    go_ret
    exact ⟨by rw [HT.out]; rfl, HB.out⟩
  · obtain ⟨r1, r2, r3⟩ := rem_to n h0 s.size (by omega)
    have HT := Lib.hid (show turnB s n m = ⟨(s.data.toList.set (n.toNat % s.size) ((s.data.toList.getD (n.toNat % s.size) 0) ^^^ m)).toArray⟩ by rw [turnB, if_neg hz])
    generalize n.toNat % s.size = k at *
    obtain ⟨cap, y, v, w5, w6, h1, h2, h3, h4, h5, h6, rfl, rfl, hB5, hB6⟩ := byte_turned s k r3 m w
    rw [← HT.out] at h6
    have HB := Lib.hid hB6
    have hzi : ((s.size : Int) == 0) = false := beq_eq_false_iff_ne.2 (by omega)
    have hzp : (0 : Int) < (s.size : Int) := by omega
    have hk1 : (k : Int) < (s.size : Int) := by omega
    have hk9 : wrap64 (k : Int) = (k : Int) := by unfold wrap64; omega
    generalize turnB s n m = D at *
    generalize (s.data.toList.getD k 0 ^^^ m) = v at *
    generalize s.data.toList.getD k 0 = y at *
    clear hB5 hB6 HT hz
    go_enter Try.func27, Try.ntmps27
    go_wp2
    go_ret
    exact ⟨rfl, HB.out⟩
section
variable {w : World} {b room : Nat} {v u : Value} {L : List ByteArray} {T : List Lte} {G : Nat → Prop}
def putF (b : Nat) : Value := .func (.func 21) #[.pointer (some ⟨b, 0, none⟩)] #[]
set_option maxRecDepth 100000 in
set_option maxHeartbeats 2000000 in
theorem deliver_any (h : LAt room L T b v u G w) (hr : room ≤ 4096) (s : ByteArray) (hs : s.size ≤ 140737488351232) (f : Fte) (h9 : f.n ≤ 9223372036854775807) (hm : mayV f = true) :
    Calls Try.prog 20 #[.string s, fteV f, putF b] w fun e w' => e = .returned (.tuple #[]) ∧ LPut room (nowL room L s f) T b G w w' := by
  obtain ⟨w1, hw1, hB, hc⟩ := fte_box f w
  obtain ⟨c0, c1, c2⟩ := hc w1 (Below.refl _ _)
  have CC := fun w => clone_any s hs w
  have CT := fun h0 w => turned_any s hs f.n h0 h9 f.mask w
  have H := Lib.hid (h.later hB)
  have HB := Lib.hid hB
  have HN := Lib.hid (show nowL room L s f = if f.kind = 0 then comesL room L s else if f.kind = 2 then comesL room (comesL room L s) s else if f.kind = 4 then comesL room L (turnB s f.n f.mask) else L from rfl)
  obtain ⟨N, hN⟩ : ∃ N, nowL room L s f = N := ⟨_, rfl⟩
  rw [hN] at HN ⊢
  have hk := mayV_kind hm
  have h0 := fun e => mayV_turn hm (f := f) e
  obtain ⟨K, n, m⟩ := f
  simp only at c0 c1 c2 CT HN hk h0
  unfold fteV putF
  unfold fteO at hw1
  clear h hB hc hm h9 hN
  rcases hk with rfl | rfl | rfl | rfl | rfl
  · clear h0 CT
    go_enter Try.func20, Try.ntmps20
    go_wp2_with fail
    refine (CC _).mono ?_
    rintro e w2 ⟨rfl, hB2⟩
    have CP := put_any (H.out.later hB2) hr s
    have HS := Lib.hid (HB.out.trans (hB2.mono HB.out.size))
    go_wp2_with fail
    refine CP.mono ?_
    rintro e w3 ⟨rfl, hP⟩
    have HP := Lib.hid (LPut.trans (Stir.of_below HS.out) (fun k hk => .inl hk) hP)
    clear hP CP hB2
    go_wp2_with fail
    go_end0
    exact ⟨rfl, by rw [HN.out]; exact HP.out⟩
  · clear h0 CT CC
    go_enter Try.func20, Try.ntmps20
    go_wp2_with fail
    go_end0
    exact ⟨rfl, by rw [HN.out]; exact LPut.trans (Stir.of_below HB.out) (fun k hk => .inl hk) (LPut.none H.out (Below.refl _ _))⟩
  · clear h0 CT
    go_enter Try.func20, Try.ntmps20
    go_wp2_with fail
    refine (CC _).mono ?_
    rintro e w2 ⟨rfl, hB2⟩
    have CP := put_any (H.out.later hB2) hr s
    have HS := Lib.hid (HB.out.trans (hB2.mono HB.out.size))
    clear hB2
    go_wp2_with fail
    refine CP.mono ?_
    rintro e w3 ⟨rfl, v3, u3, G3, h3, hG3, hs3⟩
    have HA := Lib.hid h3
    have HG := Lib.hid hG3
    have HT := Lib.hid hs3
    clear CP h3 hG3 hs3
    go_wp2_with fail
    refine (CC _).mono ?_
    rintro e w4 ⟨rfl, hB4⟩
    have CP := put_any (HA.out.later hB4) hr s
    have HU := Lib.hid (HT.out.and_below hB4)
    clear hB4
    go_wp2_with fail
    refine CP.mono ?_
    rintro e w5 ⟨rfl, hP⟩
    have HP := Lib.hid (LPut.trans (Stir.of_below HS.out) (fun k hk => .inl hk) (LPut.trans HU.out HG.out hP))
    clear hP CP
    go_wp2_with fail
    go_end0
    exact ⟨rfl, by rw [HN.out]; exact HP.out⟩
  · clear h0 CT CC
    go_enter Try.func20, Try.ntmps20
    go_wp2_with fail
    go_end0
    exact ⟨rfl, by rw [HN.out]; exact LPut.trans (Stir.of_below HB.out) (fun k hk => .inl hk) (LPut.none H.out (Below.refl _ _))⟩
  · have CT := CT (h0 rfl)
    clear h0 CC
    go_enter Try.func20, Try.ntmps20
    go_wp2_with fail
    refine (CT _).mono ?_
    rintro e w2 ⟨rfl, hB2⟩
    have CP := put_any (H.out.later hB2) hr (turnB s n m)
    have HS := Lib.hid (HB.out.trans (hB2.mono HB.out.size))
    clear hB2
    go_wp2_with fail
    refine CP.mono ?_
    rintro e w3 ⟨rfl, hP⟩
    have HP := Lib.hid (LPut.trans (Stir.of_below HS.out) (fun k hk => .inl hk) hP)
    clear hP CP
    go_wp2_with fail
    go_end0
    exact ⟨rfl, by rw [HN.out]; exact HP.out⟩

theorem lpSame {L1 L2 : List ByteArray} {T1 T2 : List Lte} {w' : World} (h : LPut room L1 T1 b G w w') (e1 : L1 = L2) (e2 : T1 = T2) : LPut room L2 T2 b G w w' := e1 ▸ e2 ▸ h
set_option maxRecDepth 100000 in
set_option maxHeartbeats 2000000 in
theorem send_any (h : LAt room L T b v u G w) (hr : room ≤ 4096) (hT : T.length ≤ 100000) (s : ByteArray) (hs : s.size ≤ 140737488351232) (f : Fte) (h9 : f.n ≤ 9223372036854775807) :
    Calls Try.prog 9 #[.pointer (some ⟨b, 0, none⟩), .string s, fteV f] w fun e w' => e = .returned (.int .i64 (sendE f)) ∧ LPut room (sendL room L s f) (sendT T s f) b G w w' := by
  obtain ⟨w1, hw1, hB, hc⟩ := fte_box f w
  have CM := fun w => may_any f w
  have HB := Lib.hid hB
  have H := Lib.hid (h.later hB)
  have HC := Lib.hid hc
  obtain ⟨M, hM⟩ : ∃ M, mayV f = M := ⟨_, rfl⟩
  rw [hM] at CM
  unfold fteO at hw1
  cases M with
  | false =>
    have HE := Lib.hid (show sendE f = 180 ∧ sendL room L s f = L ∧ sendT T s f = T by simp [sendE, sendL, sendT, hM])
    obtain ⟨c0, c1, c2⟩ := hc w1 (Below.refl _ _)
    generalize sendE f = E at *
    unfold fteV at CM ⊢
    clear h hB hc hM HC
    go_enter Try.func9, Try.ntmps9
    go_wp2_with fail
    refine (CM _).mono ?_
    rintro e w2 ⟨rfl, hB2⟩
    go_wp2_with fail
    go_ret
    exact ⟨by rw [HE.out.1]; rfl, lpSame (LPut.trans (Stir.of_below HB.out) (fun k hk => .inl hk) (LPut.none H.out hB2)) HE.out.2.1.symm HE.out.2.2.symm⟩
  | true =>
    have HE := Lib.hid (show sendE f = 0 ∧ sendL room L s f = nowL room L s f by simp [sendE, sendL, hM])
    obtain ⟨E, hE⟩ : ∃ E, sendE f = E := ⟨_, rfl⟩
    rw [hE] at HE ⊢
    by_cases h3 : f.kind = 3
    · have HT := Lib.hid (show sendT T s f = T ++ [(s, f.n.toNat)] ∧ nowL room L s f = L by simp [sendT, nowL, hM, h3])
      obtain ⟨n1, n2⟩ := mayV_late hM h3
      have CC := fun w => clone_any s hs w
      obtain ⟨i0, hi0, hz0, hz1, hz2⟩ := info_parts infoLte
      obtain ⟨c0, c1, c2⟩ := hc w1 (Below.refl _ _)
      obtain ⟨K, n, m⟩ := f
      simp only at h3 n1 n2 c0 c1 c2
      subst h3
      obtain ⟨nn, hnn⟩ : ∃ nn : Nat, n = (nn : Int) := ⟨n.toNat, by omega⟩
      subst hnn
      rw [Int.toNat_natCast] at HT
      obtain ⟨a2, cap2, rfl⟩ := row_shape h.late
      unfold fteV at CM ⊢
      clear h hB hM h9 hs
      go_enter Try.func9, Try.ntmps9
      go_wp2_with fail
      refine (CM _).mono ?_
      rintro e w2 ⟨rfl, hB2⟩
      obtain ⟨c0, c1, c2⟩ := hc w2 hB2
      have H2 := Lib.hid (H.out.later hB2)
      have HB2 := Lib.hid (HB.out.trans (hB2.mono HB.out.size))
      have HW2 := Lib.hid hB2
      have l2 := LObj.c2 H2.out.obj
      have HLW := Lib.hid (show ∀ w3, Below w2.heap.size w2 w3 → LAt room L T b v (.slice a2 T.length cap2) G (w3.alloc (.cells #[.string s, .int .i64 (nn : Int)] 58)) ∧ Below w.heap.size w (w3.alloc (.cells #[.string s, .int .i64 (nn : Int)] 58)) from fun w3 hB => by
        have h1 := hB.alloc hB.size (.cells #[.string s, .int .i64 (nn : Int)] 58)
        exact ⟨H2.out.later h1, HB2.out.trans (h1.mono HB2.out.size)⟩)
      clear hc hB2 CM
      have CC2 := CC w2.drew
      have hone : ∀ u ∈ [Value.string s, .int .i64 (nn : Int)], u.oneCell' = true := by intro u hu; simp at hu; rcases hu with rfl | rfl <;> rfl
      go_wp2_with fail
      go_region_law (first
        | (go_simp; go_at_call 19; refine CC2.mono ?_; rintro e w3 ⟨rfl, hB3⟩; have hB3' : Below w2.heap.size w2 w3 := ⟨hB3.os, hB3.tape, hB3.output, hB3.size, hB3.block⟩; have HL3 := Lib.hid (HLW.out w3 hB3'); have l3 := LObj.c2 (H2.out.later hB3').obj; have l3a := LObj.c2 HL3.out.1.obj; obtain ⟨e0, e1, e2⟩ := HC.out w3 (HW2.out.trans (hB3'.mono HW2.out.size)); have HB3 := Lib.hid (HB2.out.trans (hB3'.mono HB2.out.size)); clear hB3 hB3' e0 e2)
        | (refine step_append_own _ (by rfl) (.tmp 17) (.tmp 23) _ (by rfl) 0 58 i0 _ 2 24 Try.underlying52 hi0 hz0 hz1 hz2 rfl (by omega) _ T.length (lteVals T) (by rfl) HL3.out.1.late ⟨w3.heap.size, 0, none⟩ 1 1 [.string s, .int .i64 (nn : Int)] (by rfl) rfl (cell_two_new w3 _ _ _) hone (by unfold maxLen; omega) (by omega) (Nat.zero_le _) ?_; intro v4 w4 hown4 hgrow4 hat4 hnn4; have HO4 := Lib.hid hown4; have HG4 := Lib.hid hgrow4; have d2 := LObj.c2 (HL3.out.1.obj2 hgrow4); have f2 := LObj.fr (HL3.out.1.obj2 hgrow4) 2; have HAT := Lib.hid hat4; obtain ⟨a4, cap4, rfl⟩ := row_shape hown4; clear hown4 hgrow4 hat4 hnn4))
      all_goals (
        go_wp2_with fail
        go_ret
        refine ⟨by rw [HE.out.1]; rfl, lpSame (LPut.trans (Stir.of_below HL3.out.2) (fun k hk => .inl hk) (HL3.out.1.put2 (T' := T ++ [(s, nn)]) (by rw [lteVals_snoc, List.length_append]; exact HO4.out) HG4.out (fun k hk => ?_))) (HE.out.2.trans HT.out.2).symm HT.out.1.symm⟩
        rcases HAT.out with e | e
        · exact .inl (HL3.out.1.ownu k (e ▸ hk))
        · rw [hk] at e; cases e; exact .inr (Nat.le_refl _))
    · have HT := Lib.hid (show sendT T s f = T by simp [sendT, h3])
      have CD := fun (w' : World) (hB : Below w1.heap.size w1 w') => deliver_any (H.out.later hB) hr s hs f h9 hM
      obtain ⟨c0, c1, c2⟩ := hc w1 (Below.refl _ _)
      have k3 : (f.kind == 3) = false := beq_eq_false_iff_ne.2 h3
      obtain ⟨K, n, m⟩ := f
      simp only at k3 c0 c1 c2
      have hmf : ∀ (fn : Fn) (first cap : Array Value) (w : World), (Instr.makeFunc fn first cap).run Try.prog w = .ok (.func fn first cap) w := fun _ _ _ _ => rfl
      unfold fteV at CM CD ⊢
      unfold putF at CD
      clear h hB hM h9 hs h3
      go_enter Try.func9, Try.ntmps9
      go_wp2_with fail
      refine (CM _).mono ?_
      rintro e w2 ⟨rfl, hB2⟩
      obtain ⟨c0, c1, c2⟩ := hc w2 hB2
      have HB2 := Lib.hid hB2
      clear hc hB2 CM
      have HS2 := Lib.hid (HB.out.trans (HB2.out.mono HB.out.size))
      have CDD := CD w2.drew (show Below w1.heap.size w1 w2.drew from ⟨HB2.out.os, HB2.out.tape, HB2.out.output, HB2.out.size, HB2.out.block⟩)
      go_wp2_with fail
      go_region_law (first
        | (go_simp; go_at_call 20; refine CDD.mono ?_; rintro e w3 ⟨rfl, hP⟩; have HP := Lib.hid hP; clear hP))
      all_goals (
        go_wp2_with fail
        go_ret
        exact ⟨by rw [HE.out.1]; rfl, lpSame (LPut.trans (Stir.of_below (show Below w.heap.size w w2.drew from HS2.out.drew)) (fun k hk => .inl hk) HP.out) HE.out.2.symm HT.out.symm⟩)
end
end Go.Proofs.Ytiiplchakanomaa

