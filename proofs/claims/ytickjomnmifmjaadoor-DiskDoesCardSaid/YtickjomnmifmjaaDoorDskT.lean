/-
  The law's own text of a byte.
-/
import Derived.Test.YtickjomnmifmjaaDoorDskO
import Derived.LoopNIn
namespace Go.Proofs.YtickjomnmifmjaaDoor
open Go.RowKit Go Go.Maps SM

/-- how many bytes -/
def secN (more : Int) : Nat := (64 + max (-64) (min more 136)).toNat
def sec (c : UInt8) (more : Int) : ByteArray := ⟨(List.replicate (secN more) c).toArray⟩
theorem size_sec (c : UInt8) (more : Int) : (sec c more).size = secN more := by simp [sec, ByteArray.size]
theorem secN_le (more : Int) : secN more ≤ 200 := by unfold secN; omega
theorem secN_zero : secN 0 = 64 := by decide

theorem row_step (c : UInt8) (N k : Nat) (h : k < N) : (List.replicate k c ++ List.replicate (N - k) (0 : UInt8)).set k c = List.replicate (k + 1) c ++ List.replicate (N - (k + 1)) 0 := by
  rw [List.set_append_right _ _ (by simp), List.length_replicate, Nat.sub_self, show N - k = (N - (k + 1)) + 1 by omega, List.replicate_succ, List.set_cons_zero, List.replicate_succ', List.append_assoc]
  rfl

set_option maxRecDepth 100000 in
set_option maxHeartbeats 1000000 in
theorem sector_any (c : UInt8) (more : Int) (w : World) :
    Calls Tryd.prog 21 #[.int .u8 c.toNat, .int .i64 more] w fun e w' => e = .returned (.string (sec c more)) ∧ Below w.heap.size w w' := by
  obtain ⟨N, hN⟩ : ∃ N, secN more = N := ⟨_, rfl⟩
  have hNle : N ≤ 200 := by rw [← hN]; exact secN_le more
  have hsec : sec c more = ⟨(List.replicate N c).toArray⟩ := by rw [sec, hN]
  obtain ⟨P, p1, p2, p3⟩ : ∃ P : Int, min more 136 = P ∧ (if (136 : Int) < more then 136 else more) = P ∧ (if more < 136 then more else 136) = P := ⟨min more 136, rfl, by omega, by omega⟩
  obtain ⟨Q, q1, q2, q3⟩ : ∃ Q : Int, max (-64) P = Q ∧ (if (-64 : Int) < P then P else -64) = Q ∧ (if P < -64 then -64 else P) = Q := ⟨max (-64) P, rfl, by omega, by omega⟩
  have hQ : 64 + Q = (N : Int) := by unfold secN at hN; rw [p1, q1] at hN; omega
  have hQ1 : -64 ≤ Q := by omega
  rw [hsec]
  obtain ⟨i0, hi, hz0, hz1, hz2⟩ := info_parts info5e
  have hmk := run_makeSlice (P := Tryd.prog) (w := w) 26 5 i0 (.int .u8 0) Tryd.underlying26 hi hz0 .i64 .i64 (64 + Q) (64 + Q) (by omega) (by omega) (by rw [hz1]; omega) (by rw [hz2]; omega) (by omega)
  rw [hz1, Nat.mul_one, hQ, Int.toNat_natCast, show Value.cells (.int .u8 0) = #[.int .u8 0] from rfl, ← hQ] at hmk
  have HQ := Lib.hid hQ
  have hrow0 := Lib.hid (RowAt.new w N)
  have hB0 := Lib.hid ((Below.refl _ w).alloc (Nat.le_refl _) (.cells (madeCells #[.int .u8 0] N) 5))
  clear hsec hN hQ
  go_enter Tryd.func21, Tryd.ntmps21
  go_wp2
  go_loopw [6] (fun i wr => ∃ k : Nat, k ≤ N ∧ i = .int .i64 k ∧ RowAt wr w.heap.size (List.replicate k c ++ List.replicate (N - k) 0) ∧ Below w.heap.size w wr) (fun i _ => N - (intOf i).toNat)
  case atStart => exact ⟨0, Nat.zero_le _, rfl, by simpa using hrow0.out, hB0.out⟩
  case round =>
    obtain ⟨k, hk, rfl, hrow, hB⟩ := hrel
    by_cases hlt : k < N
    · have hset := hrow.set k c (by simp; omega)
      rw [row_step c N k hlt] at hset
      have HS := Lib.hid hset
      obtain ⟨hc8, hf8⟩ := hrow k (by simp; omega)
      have HB := Lib.hid hB
      have hki : (k : Int) < (N : Int) := by omega
      clear hset hrow hB hmk
      go_wp2
      go_roundw
      case rel => exact ⟨k + 1, by omega, by go_num, HS.out, HB.out.setCell (p := ⟨w.heap.size, k, none⟩) (Nat.le_refl _) _⟩
      case measure => simp [intOf]; omega
    · obtain rfl : k = N := by omega
      rw [Nat.sub_self, List.replicate_zero, List.append_nil] at hrow
      have hconv : (convert 26 9 (.slice (some ⟨w.heap.size, 0, none⟩) k k)).run Tryd.prog wr = .ok (.string ⟨(List.replicate k c).toArray⟩) wr := by
        have := run_convert_bytes_back wr 26 9 5 ⟨w.heap.size, 0, none⟩ k (List.replicate k c) Tryd.underlying26 Tryd.underlying5 Tryd.underlying9 (fun j hj => by
          rw [Addr.add_lit, Nat.zero_add, (hrow j hj).1, gd_lt hj])
        rw [List.length_replicate] at this
        exact this
      clear hrow hmk
      go_wp2
      go_ret
      exact ⟨rfl, hB⟩
end Go.Proofs.YtickjomnmifmjaaDoor
