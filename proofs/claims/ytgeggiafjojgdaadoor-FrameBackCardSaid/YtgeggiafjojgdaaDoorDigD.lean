/-
  A sum that goes on: Write.
-/
import Derived.Test.YtgeggiafjojgdaaDoorDigC
namespace Go.Proofs.YtgeggiafjojgdaaDoor.DG
open Go.RowKit Go

theorem HObj.c4 {w : World} {b : Nat} {h : Hs} (hb : w.heap[b]? = some (HObj h)) : w.cell? ⟨b, 4, none⟩ = some (.int .u64 (h.part.toNat : Int)) := by simp [World.cell?, hb, HObj, W4]
theorem HObj.c5 {w : World} {b : Nat} {h : Hs} (hb : w.heap[b]? = some (HObj h)) : w.cell? ⟨b, 5, none⟩ = some (.int .u8 (h.size.toNat : Int)) := by simp [World.cell?, hb, HObj, W4]
theorem HObj.fr {w : World} {b : Nat} {h : Hs} (hb : w.heap[b]? = some (HObj h)) (i : Nat) : w.frozen? ⟨b, i, none⟩ = false := by simp [World.frozen?, hb, HObj, W4]
theorem Turned.part {w v : World} {b : Nat} {h : Hs} (t : Turned b (HObj h) w v) (x : UInt64) : Turned b (HObj ⟨h.four, x, h.size⟩) w (v.setCell ⟨b, 4, none⟩ (.int .u64 x.toNat)) := by
  have := Turned.set (i := 4) t (.int .u64 x.toNat); simpa [HObj, W4, u64] using this
theorem Turned.size5 {w v : World} {b : Nat} {h : Hs} (t : Turned b (HObj h) w v) (x : UInt8) : Turned b (HObj ⟨h.four, h.part, x⟩) w (v.setCell ⟨b, 5, none⟩ (.int .u8 x.toNat)) := by
  have := Turned.set (i := 5) t (.int .u8 x.toNat); simpa [HObj, W4, u64] using this

theorem part_spell (p : UInt64) (x z : UInt8) :
    bits .or .u64 (p.toNat : Int) (IntKind.u64.wrap ((x.toNat : Int) * 2 ^ (8 * (z.toNat % 8)))) = ((p ||| (x.toUInt64 <<< UInt64.ofNat (8 * (z.toNat % 8)))).toNat : Int) := by
  have e := shl_spell x.toUInt64 (8 * (z.toNat % 8)) (by omega)
  rw [UInt8.toNat_toUInt64] at e
  show bits .or .u64 (p.toNat : Int) (((x.toNat : Int) * 2 ^ (8 * (z.toNat % 8))) % 18446744073709551616) = _
  rw [e, or_spell]
theorem size_spell (z : UInt8) : IntKind.u8.wrap ((z.toNat : Int) + 1) = ((z + 1).toNat : Int) := by
  show ((z.toNat : Int) + 1) % 256 = _
  rw [UInt8.toNat_add, show (1 : UInt8).toNat = 1 from rfl]; omega

set_option maxRecDepth 100000 in
set_option maxHeartbeats 1000000 in
theorem write_any (b : Nat) (h : Hs) (s : ByteArray) (hs : s.size ≤ 281474976710656) (w : World) (hb : w.heap[b]? = some (HObj h)) :
    Calls Tryd.prog 39 #[.pointer (some ⟨b, 0, none⟩), .string s] w fun e w' => (∃ v, e = .returned v) ∧ Turned b (HObj (puts h s.data.toList)) w w' := by
  go_enter Tryd.func39, Tryd.ntmps39
  go_wp2
  go_loopw [7] (fun i wr => ∃ k : Nat, k ≤ s.size ∧ i = .int .i64 k ∧ Turned b (HObj (puts h (s.data.toList.take k))) w wr) (fun i _ => s.size - (intOf i).toNat)
  case atStart => exact ⟨0, Nat.zero_le _, rfl, Turned.refl hb⟩
  case round =>
    obtain ⟨k, hk, rfl, HT⟩ := hrel
    by_cases hlt : k < s.size
    · have hl : k < s.data.toList.length := by simpa using hlt
      have HN := Lib.hid (show puts h (s.data.toList.take (k + 1)) = put (puts h (s.data.toList.take k)) s[k] by
        rw [List.take_succ_eq_append_getElem hl, puts_append]; rfl)
      obtain ⟨g, hg⟩ : ∃ g, puts h (s.data.toList.take k) = g := ⟨_, rfl⟩
      rw [hg] at HN HT
      clear hg
      have c4 := HObj.c4 HT.here
      have c5 := HObj.c5 HT.here
      have fr := HObj.fr HT.here
      have hc := u64_of_u8 s[k]
      have hlt' : (k : Int) < (s.size : Int) := by omega
      have hp := part_spell g.part s[k] g.size
      have hz := size_spell g.size
      have hput : put g s[k] = if (g.size + 1).toNat % 8 = 0 then ⟨take g.four (g.part ||| (s[k].toUInt64 <<< UInt64.ofNat (8 * (g.size.toNat % 8)))), 0, g.size + 1⟩ else ⟨g.four, g.part ||| (s[k].toUInt64 <<< UInt64.ofNat (8 * (g.size.toNat % 8))), g.size + 1⟩ := rfl
      rw [hput] at HN
      clear hput
      generalize g.part ||| (s[k].toUInt64 <<< UInt64.ofNat (8 * (g.size.toNat % 8))) = p at HN hp
      generalize g.size + 1 = z at HN hz
      have T3 := Lib.hid ((HT.part p).size5 z)
      have c5b : (wr.setCell ⟨b, 4, none⟩ (.int .u64 (p.toNat : Int))).cell? ⟨b, 5, none⟩ = some (.int .u8 (g.size.toNat : Int)) := HObj.c5 (h := ⟨g.four, p, g.size⟩) (HT.part p).here
      have c5c := HObj.c5 T3.out.here
      have c4c := HObj.c4 T3.out.here
      have frc := HObj.fr T3.out.here
      by_cases h8 : z.toNat % 8 = 0
      · rw [if_pos h8] at HN
        have t8 : ((z.toNat : Int) % 8 == 0) = true := by simp; omega
        clear h8
        go_wp2_with fail
        go_region
        go_wp2_with fail
        have T3' := T3.out
        clear T3 c4 c5 fr c5b
        generalize (wr.setCell ⟨b, 4, none⟩ (.int .u64 (p.toNat : Int))).setCell ⟨b, 5, none⟩ (.int .u8 (z.toNat : Int)) = w3 at *
        clear HT
        go_region_with (go_at_call 47; refine (take_any b g.four p _ _ _ (show w3.drew.drew.heap[b]? = _ from T3'.here)).mono ?_; rintro e w' ⟨⟨v, rfl⟩, T4⟩)
        trace_state
        all_goals (
          have T5 : Turned b (HObj ⟨take g.four p, p, z⟩) w w' := T3'.drew.drew.trans T4
          have fr := HObj.fr T5.here
          have c4 := HObj.c4 T5.here
          have T6 := T5.part 0
          go_wp2_with fail
          go_roundw
          case rel => exact ⟨k + 1, by omega, by go_num, by rw [HN.out]; exact T6⟩
          case measure => simp [intOf]; omega)
      · rw [if_neg h8] at HN
        have t8 : ((z.toNat : Int) % 8 == 0) = false := by simp; omega
        clear h8
        go_wp2_with fail
        go_region
        go_wp2_with fail
        go_roundw
        case rel => exact ⟨k + 1, by omega, by go_num, by rw [HN.out]; exact T3.out.drew⟩
        case measure => simp [intOf]; omega
    · obtain rfl : k = s.size := by omega
      rw [show s.data.toList.take s.size = s.data.toList by rw [List.take_of_length_le]; simp] at HT
      go_wp2
      go_end0
      exact ⟨⟨_, rfl⟩, HT⟩
end Go.Proofs.YtgeggiafjojgdaaDoor.DG

