/-
  The reference's reader: Text and Nums.
-/
import Derived.Test.YtgeggiafjojgdaaDoorWirU
namespace Go.Proofs.YtgeggiafjojgdaaDoor
open Go.RowKit Go

theorem w64 (n : Int) (h1 : -9223372036854775808 ≤ n) (h2 : n ≤ 9223372036854775807) : RowKit.wrap64 n = n := by
  unfold RowKit.wrap64; omega
theorem w64_nat (k : Nat) (h : k ≤ 281474976710656) : RowKit.wrap64 (k : Int) = (k : Int) := w64 _ (by omega) (by omega)
theorem w64_sub (a b : Nat) (h : a ≤ 281474976710656) (h2 : b ≤ 281474976710656) : RowKit.wrap64 ((a : Int) - (b : Int)) = (a : Int) - (b : Int) := w64 _ (by omega) (by omega)
theorem extract_mid (s : ByteArray) (p n : Nat) : s.extract p (p + n) = bs ((s.data.toList.drop p).take n) := by
  rw [← bs_self (s.extract p (p + n)), Lib.extract_data, Nat.add_sub_cancel_left]

set_option maxRecDepth 100000 in
set_option maxHeartbeats 4000000 in
theorem mtext_any (b : Nat) (s : ByteArray) (p : Nat) (e : Int) (r : Rd) (most : Int) (hs : s.size ≤ 281474976710656) (hst : Stands s p e r) (w : World) (hb : w.heap[b]? = some (QObj s p e)) :
    Calls Tryd.prog 20 #[.pointer (some ⟨b, 0, none⟩), .int .i64 most] w fun v w' => ∃ (p' : Nat) (e' : Int), v = .returned (.tuple #[.string (bs (textR r most).1), .int .i64 (textR r most).2.err]) ∧ Stands s p' e' (textR r most).2 ∧ Moved b (QObj s p' e') w w' := by
  have hlow := low_walk most
  have HT := Lib.hid (show textR r most = bytesR (numR r (low most)).2 (numR r (low most)).1 from rfl)
  have C := mnum_any b s p e r (low most) hs hst w hb
  generalize low most = m at *
  generalize numR r m = q at *
  obtain ⟨n, r1⟩ := q
  obtain ⟨f, hf⟩ : ∃ f, r1.err = f := ⟨_, rfl⟩
  have C' : Calls Tryd.prog 19 #[.pointer (some ⟨b, 0, none⟩), .int .i64 m] w fun v w' => ∃ (p' : Nat) (e' : Int), v = .returned (.tuple #[.int .i64 n, .int .i64 f]) ∧ Stands s p' e' r1 ∧ Moved b (QObj s p' e') w w' := by rw [← hf]; exact C
  have HT' := Lib.hid (show textR r most = bytesR r1 n from HT.out)
  clear hst hb C HT
  go_enter Tryd.func20, Tryd.ntmps20
  go_wp2_with fail
  refine C'.mono ?_
  rintro v w1 ⟨p1, e1, rfl, hst1, M1⟩
  obtain rfl : e1 = f := hst1.err.symm.trans hf
  clear C'
  by_cases he : e1 = 0
  · subst he
    have hpl := hst1.le rfl
    have hrest := hst1.rest rfl
    have c0 := QObj.c0 M1.here
    have c1 := QObj.c1 M1.here
    have fr := QObj.fr M1.here
    have HM := Lib.hid M1
    have hlen : r1.rest.length = s.size - p1 := by rw [hrest]; simp
    by_cases hn : n ≤ r1.rest.length
    · obtain ⟨u, hu⟩ : ∃ u, p1 + n = u := ⟨_, rfl⟩
      have HR := Lib.hid (show textR r most = (r1.rest.take n, ⟨r1.rest.drop n, 0⟩) by
        rw [HT'.out]; unfold bytesR; rw [if_pos hf, if_pos hn])
      have HX := Lib.hid (show bs (r1.rest.take n) = s.extract p1 u by rw [← hu, extract_mid, hrest])
      have HS := Lib.hid (show Stands s u 0 ⟨r1.rest.drop n, 0⟩ from ⟨rfl, fun _ => by omega, fun _ => by show List.drop n r1.rest = _; rw [hrest, List.drop_drop, hu]⟩)
      have hn1 : (n : Int) ≤ (s.size : Int) - (p1 : Int) := by omega
      have hui : (p1 : Int) + (n : Int) = (u : Int) := by omega
      have hud : (u : Int) - (n : Int) = (p1 : Int) := by omega
      have hus : (u : Int) ≤ (s.size : Int) := by omega
      have hpu : (p1 : Int) ≤ (u : Int) := by omega
      have hpi : (0 : Int) ≤ (p1 : Int) := by omega
      have hw1 : RowKit.wrap64 ((s.size : Int) - (p1 : Int)) = (s.size : Int) - (p1 : Int) := w64_sub _ _ hs (Nat.le_trans hpl hs)
      have hw2 : RowKit.wrap64 (u : Int) = (u : Int) := w64_nat _ (Nat.le_trans (Int.ofNat_le.1 hus) hs)
      have hw3 : RowKit.wrap64 (p1 : Int) = (p1 : Int) := w64_nat _ (Nat.le_trans hpl hs)
      have HU := Lib.hid (fun N : Nat => (HM.out.drewN (n := N)).setAt u)
      clear hlen hrest hst1 hpl hu HT' hn hf M1
      go_wp2_with fail
      go_quiet (fail)
      go_wp2_with fail
      go_quiet (fail)
      go_wp2_with fail
      go_ret2
      exact ⟨u, 0, by rw [HR.out, HX.out]; rfl, by rw [HR.out]; exact HS.out, (HU.out _).drewN⟩
    · have HR := Lib.hid (show textR r most = ([], ⟨r1.rest, 32⟩) by
        rw [HT'.out]; unfold bytesR; rw [if_pos hf, if_neg hn])
      have hn1 : (s.size : Int) - (p1 : Int) < (n : Int) := by omega
      have hw1 : RowKit.wrap64 ((s.size : Int) - (p1 : Int)) = (s.size : Int) - (p1 : Int) := w64_sub _ _ hs (Nat.le_trans hpl hs)
      clear hlen hrest hst1 hpl HT' hn hf M1
      go_wp2_with fail
      go_quiet (fail)
      go_wp2_with fail
      refine (fails_any b s p1 0 32 _ (HM.out.drewN).here).mono ?_
      rintro v w3 ⟨rfl, K⟩
      go_wp2_with fail
      go_ret2
      exact ⟨p1, 32, by rw [HR.out]; rfl, by rw [HR.out]; exact ⟨rfl, fun e => absurd e (by decide), fun e => absurd e (by decide)⟩, HM.out.drewN.trans K⟩
  · have HR := Lib.hid (show textR r most = ([], r1) by rw [HT'.out]; exact bytesR_err (by rw [hf]; exact he) _)
    have HM := Lib.hid M1
    have HS := Lib.hid hst1
    have HF := Lib.hid hf
    have hne : (e1 != 0) = true := bne_iff_ne.2 he
    clear hst1 M1 HT' hf
    go_wp2_with fail
    go_ret2
    exact ⟨p1, e1, by rw [HR.out, HF.out]; rfl, by rw [HR.out]; exact HS.out, HM.out⟩
end Go.Proofs.YtgeggiafjojgdaaDoor

