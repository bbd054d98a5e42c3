/-
  A sum that goes on: Sum; and the sum at once.
-/
import Derived.Test.YtgeggiafjojgdaaDoorDigD
namespace Go.Proofs.YtgeggiafjojgdaaDoor.DG
open Go.RowKit Go

def rnds : Nat → St → St
  | 0, s => s
  | k + 1, s => rnd (rnds k s)
theorem close_eq (s : St) (u : St) (hu : rnds 4 ⟨s.a, s.b, s.c ^^^ 255, s.d⟩ = u) : close s = text (u.a ^^^ u.b ^^^ u.c ^^^ u.d) := by
  subst hu; rfl
theorem xor255 (x : UInt64) : bits .xor .u64 (x.toNat : Int) 255 = ((x ^^^ 255).toNat : Int) := xor_spell x 255
theorem size_part (p : UInt64) (z : UInt8) : bits .or .u64 (p.toNat : Int) (IntKind.u64.wrap ((z.toNat : Int) * 72057594037927936)) = ((p ||| (z.toUInt64 <<< UInt64.ofNat 56)).toNat : Int) := by
  have e := shl_spell z.toUInt64 56 (by decide)
  rw [UInt8.toNat_toUInt64, show (2 : Int) ^ 56 = 72057594037927936 by decide] at e
  rw [IntKind.wrap_u64, e, or_spell]

set_option maxRecDepth 100000 in
set_option maxHeartbeats 1000000 in
theorem sum_any (b : Nat) (h : Hs) (w : World) (hb : w.heap[b]? = some (HObj h)) :
    Calls Tryd.prog 40 #[.pointer (some ⟨b, 0, none⟩)] w fun e w' => e = .returned (.string (bs (sumOf h))) ∧ Below w.heap.size w w' := by
  have c0 := W4.c0 hb
  have c1 := W4.c1 hb
  have c2 := W4.c2 hb
  have c3 := W4.c3 hb
  have hlt := W4.lt hb
  have hm := size_part h.part h.size
  have hc := u64_of_u8 h.size
  have hS := Lib.hid (show sumOf h = close (take h.four (h.part ||| (h.size.toUInt64 <<< UInt64.ofNat 56))) from rfl)
  generalize h.part ||| (h.size.toUInt64 <<< UInt64.ofNat 56) = m at hm hS
  obtain ⟨w1, e1⟩ : ∃ w1, w.alloc (.cells #[.int .u64 h.four.a.toNat, .int .u64 h.four.b.toNat, .int .u64 h.four.c.toNat, .int .u64 h.four.d.toNat] 73) = w1 := ⟨_, rfl⟩
  have HN := Lib.hid (show w1.heap[w.heap.size]? = some (W4 h.four [] 73) by rw [← e1]; exact heap_alloc_new _ _)
  have B1 : Below w.heap.size w w1 := by rw [← e1]; exact (Below.refl _ w).alloc (Nat.le_refl _) _
  have c4 : w1.cell? ⟨b, 4, none⟩ = _ := (B1.cell (p := ⟨b, 4, none⟩) hlt).trans (HObj.c4 hb)
  have c5 : w1.cell? ⟨b, 5, none⟩ = _ := (B1.cell (p := ⟨b, 5, none⟩) hlt).trans (HObj.c5 hb)
  clear hb
  go_enter Tryd.func40, Tryd.ntmps40
  go_wp2_with fail
  go_region_with (go_at_call 47; refine (take_any w.heap.size h.four m [] 73 _ (show w1.drew.heap[w.heap.size]? = _ from HN.out)).mono ?_; rintro e w' ⟨⟨v, rfl⟩, T1⟩)
  all_goals (
    have N1 := T1.here
    have B2 : Below w.heap.size w w' := B1.drew.trans (T1.below (Nat.le_refl _))
    clear T1 HN c0 c1 c2 c3 c4 c5 hm hc
    generalize take h.four m = t at N1 hS
    have c2 := W4.c2 N1
    have fr := W4.fr N1
    have hx := xor255 t.c
    have T2 := (Turned.refl N1).set2 (t.c ^^^ 255)
    have hS2 := Lib.hid (show ∀ u, rnds 4 ⟨t.a, t.b, t.c ^^^ 255, t.d⟩ = u → close t = text (u.a ^^^ u.b ^^^ u.c ^^^ u.d) from fun u hu => close_eq t u hu)
    generalize t.c ^^^ 255 = y at hx T2 hS2
    obtain ⟨w2, e2⟩ : ∃ w2, w'.setCell ⟨w.heap.size, 2, none⟩ (.int .u64 y.toNat) = w2 := ⟨_, rfl⟩
    rw [e2] at T2
    have N2 := T2.here
    have B3 : Below w.heap.size w w2 := B2.trans (T2.below (Nat.le_refl _))
    clear T2 N1 B2
    generalize (⟨t.a, t.b, y, t.d⟩ : St) = q at N2 hS2
    go_wp2_with fail
    go_loopw [24] (fun i wr => ∃ k : Nat, k ≤ 4 ∧ i = .int .i64 k ∧ wr.heap[w.heap.size]? = some (W4 (rnds k q) [] 73) ∧ Below w.heap.size w wr) (fun i _ => 4 - (intOf i).toNat)
    case atStart => exact ⟨0, Nat.zero_le _, rfl, N2, B3⟩
    case round =>
      obtain ⟨k, hk, rfl, N3, B4⟩ := hrel
      by_cases hlt4 : k < 4
      · go_wp2_with fail
        refine (round_any w.heap.size _ [] _ _ N3).mono ?_
        rintro e w3 ⟨⟨v2, rfl⟩, T3⟩
        go_wp2_with fail
        go_roundw
        case rel => exact ⟨k + 1, by omega, by go_num, T3.here, B4.trans (T3.below (Nat.le_refl _))⟩
        case measure => simp [intOf]; omega
      · obtain rfl : k = 4 := by omega
        obtain ⟨u, hu⟩ : ∃ u, rnds 4 q = u := ⟨_, rfl⟩
        rw [hu] at N3
        have hS3 := Lib.hid (hS2.out u hu)
        clear hS2 hu
        have c0 := W4.c0 N3
        have c1 := W4.c1 N3
        have c2 := W4.c2 N3
        have c3 := W4.c3 N3
        have x1 := xor_spell u.a u.b
        have x2 := xor_spell (u.a ^^^ u.b) u.c
        have x3 := xor_spell (u.a ^^^ u.b ^^^ u.c) u.d
        generalize u.a ^^^ u.b ^^^ u.c ^^^ u.d = y3 at hS3 x3
        generalize u.a ^^^ u.b ^^^ u.c = y2 at x2 x3
        generalize u.a ^^^ u.b = y1 at x1 x2
        go_wp2_with fail
        refine (text_any y3 _).mono ?_
        rintro e w4 ⟨rfl, B5⟩
        go_wp2_with fail
        go_ret
        exact ⟨by rw [hS.out, hS3.out]; rfl, B4.trans (B5.mono B4.size)⟩)

/-- what Sum answers -/
def sumV (key s : List UInt8) : Value := if key.length = 16 then .tuple #[.string (bs (sum key s)), .int .i64 0] else .tuple #[.string (bs []), .int .i64 20]

set_option maxRecDepth 100000 in
theorem dsum_any (key s : ByteArray) (hk : key.size ≤ 281474976710656) (hs : s.size ≤ 281474976710656) (w : World) :
    Calls Tryd.prog 26 #[.string key, .string s] w fun e w' => e = .returned (sumV key.data.toList s.data.toList) ∧ Below w.heap.size w w' := by
  by_cases h16 : key.size = 16
  · have hV := Lib.hid (show sumV key.data.toList s.data.toList = .tuple #[.string (bs (sumOf (puts (new key.data.toList) s.data.toList))), .int .i64 0] by
      unfold sumV; rw [if_pos (by simpa using h16)]; rfl)
    go_enter Tryd.func26, Tryd.ntmps26
    go_wp2_with fail
    refine (new_any key h16 _).mono ?_
    rintro e w1 ⟨b, rfl, hb, H1, B1⟩
    go_wp2_with fail
    refine (write_any b _ s hs _ H1).mono ?_
    rintro e w2 ⟨⟨v, rfl⟩, T2⟩
    go_wp2_with fail
    refine (sum_any b _ _ T2.here).mono ?_
    rintro e w3 ⟨rfl, B3⟩
    go_wp2_with fail
    go_ret2
    have B2 := B1.trans (T2.below hb)
    exact ⟨by rw [hV.out]; rfl, B2.trans (B3.mono B2.size)⟩
  · have hV := Lib.hid (show sumV key.data.toList s.data.toList = .tuple #[.string (bs []), .int .i64 20] by
      unfold sumV; rw [if_neg (by simpa using h16)])
    go_enter Tryd.func26, Tryd.ntmps26
    go_wp2_with fail
    refine (new_wrong key h16 (by omega) _).mono ?_
    rintro e w1 ⟨rfl, rfl⟩
    go_wp2_with fail
    go_ret2
    exact ⟨by rw [hV.out]; rfl, Below.refl _ _⟩
end Go.Proofs.YtgeggiafjojgdaaDoor.DG

