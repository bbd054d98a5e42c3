/-
  A message that is late by so many steps comes with the last of them, and not ahead of it (of at most 50 messages): for every list of numbers.
  Conditions: none besides the row's own.
-/
import Derived.Test.YtiiplchakanomaaLnkX
import Derived.Test.YtiiplchakanomaaLnkSrc
import Derived.Test.YtiiplchakanomaaKitM
import Derived.Test.YtiiplchakanomaaKitI
import Derived.Deep.QuietTactic
import Derived.Deep.RegionLaw
namespace Go.Proofs.Ytiiplchakanomaa.llate
open Go.Proofs.Ytiiplchakanomaa
open Go.ChangeShapes Go.WideShapes Go.ChangeAt Go.RowKit Go

/-- a message of one byte -/
def msg (i : Nat) : ByteArray := ⟨#[UInt8.ofNat i]⟩
/-- what is late behind s steps, of the first n -/
def Tn (d : Nat → Nat) : Nat → Nat → List Lte
  | 0, _ => []
  | n + 1, s => Tn d n s ++ (if s < d n then [(msg n, d n - s)] else [])
/-- what comes with the step s -/
def Ln (d : Nat → Nat) : Nat → Nat → List ByteArray
  | 0, _ => []
  | n + 1, s => Ln d n s ++ (if d n = s then [msg n] else [])
theorem Ln_len (d : Nat → Nat) (s : Nat) : ∀ n, (Ln d n s).length ≤ n
  | 0 => Nat.le_refl _
  | n + 1 => by
    have := Ln_len d s n
    rw [Ln, List.length_append]
    split <;> simp <;> omega
theorem Tn_len (d : Nat → Nat) (s : Nat) : ∀ n, (Tn d n s).length ≤ n
  | 0 => Nat.le_refl _
  | n + 1 => by
    have := Tn_len d s n
    rw [Tn, List.length_append]
    split <;> simp <;> omega
theorem step_is (d : Nat → Nat) (s : Nat) : ∀ n, n ≤ 100 → stepL 100 [] (Tn d n s) = Ln d n (s + 1)
  | 0, _ => rfl
  | n + 1, h => by
    have ih := step_is d s n (by omega)
    have hl := Ln_len d (s + 1) n
    rw [Tn, Ln]
    by_cases h1 : s < d n
    · rw [if_pos h1, stepL_snoc, ih]
      by_cases h2 : d n = s + 1
      · rw [if_pos (by simp only; omega), if_pos h2, comesL, if_pos (by omega)]
      · rw [if_neg (by simp only; omega), if_neg h2, List.append_nil]
    · rw [if_neg h1, List.append_nil, if_neg (by omega), List.append_nil, ih]
theorem left_is (d : Nat → Nat) (s : Nat) : ∀ n, leftT (Tn d n s) = Tn d n (s + 1)
  | 0 => rfl
  | n + 1 => by
    have ih := left_is d s n
    rw [Tn, Tn]
    by_cases h1 : s < d n
    · rw [if_pos h1, leftT_snoc, ih]
      by_cases h2 : d n = s + 1
      · rw [if_pos (by simp only; omega), if_neg (by omega)]
      · rw [if_neg (by simp only; omega), if_pos (by omega)]
        simp only
        rw [show d n - s - 1 = d n - (s + 1) by omega]
    · rw [if_neg h1, List.append_nil, if_neg (by omega), List.append_nil, ih]
theorem Tn_ok {d : Nat → Nat} (hd : ∀ i, 1 ≤ d i ∧ d i ≤ 8) (s : Nat) : ∀ n, LateOk (Tn d n s)
  | 0 => fun q hq => by cases hq
  | n + 1 => fun q hq => by
    rw [Tn] at hq
    rcases List.mem_append.1 hq with h | h
    · exact Tn_ok hd s n q h
    · have := hd n
      split at h
      · obtain rfl := List.mem_singleton.1 h
        simp only
        omega
      · cases h
theorem Tn_end {d : Nat → Nat} (hd : ∀ i, 1 ≤ d i ∧ d i ≤ 8) : ∀ n, Tn d n 8 = []
  | 0 => rfl
  | n + 1 => by
    have := hd n
    rw [Tn, Tn_end hd n, if_neg (by omega)]
    rfl
theorem Ln_pre (d : Nat → Nat) (s : Nat) {n i : Nat} (h : i ≤ n) : ∃ P, Ln d n s = Ln d i s ++ P := by
  induction n with
  | zero => obtain rfl : i = 0 := by omega
            exact ⟨[], rfl⟩
  | succ n ih =>
    by_cases hi : i = n + 1
    · exact ⟨[], by rw [hi, List.append_nil]⟩
    · obtain ⟨P, hP⟩ := ih (by omega)
      exact ⟨P ++ (if d n = s then [msg n] else []), by rw [Ln, hP, List.append_assoc]⟩
/-- the next one -/
theorem Ln_next {d : Nat → Nat} {s n i : Nat} {P : List ByteArray} (h : Ln d n s = Ln d i s ++ P) (hi : i < n) : (d i = s → ∃ P', P = msg i :: P' ∧ Ln d n s = Ln d (i + 1) s ++ P') ∧ (d i ≠ s → Ln d n s = Ln d (i + 1) s ++ P) := by
  obtain ⟨Q, hQ⟩ := Ln_pre d s (n := n) (i := i + 1) hi
  refine ⟨fun e => ⟨Q, ?_, hQ⟩, fun e => ?_⟩
  · rw [hQ, Ln, if_pos e, List.append_assoc] at h
    exact (List.append_cancel_left h).symm
  · rw [h, Ln, if_neg e, List.append_nil]
/-- how late the number i is -/
def dOf (l : List Int) (i : Nat) : Nat := 1 + (bits .and .i64 (l.getD i 0) 7).toNat
theorem dOf_is (l : List Int) (i : Nat) : 1 ≤ dOf l i ∧ dOf l i ≤ 8 ∧ bits .and .i64 (l.getD i 0) 7 = ((dOf l i - 1 : Nat) : Int) := by
  obtain ⟨z, h1, h2⟩ := and_to 7 (by decide) (l.getD i 0)
  have h3 : bits .and .i64 (l.getD i 0) 7 = (z : Int) := h1
  unfold dOf
  rw [h3]
  omega
/-- a link of the law's own -/
def LE (w0 : World) (b : Nat) (L : List ByteArray) (T : List Lte) (w : World) : Prop := ∃ G, LG w0 100 L T b G w
theorem LE.below {w0 w : World} {b : Nat} {L : List ByteArray} {T : List Lte} (h : LE w0 b L T w) : Below w0.heap.size w0 w := by
  obtain ⟨G, h⟩ := h
  exact h.below
theorem LE.later {w0 w w' : World} {b : Nat} {L : List ByteArray} {T : List Lte} (h : LE w0 b L T w) (hB : Below w.heap.size w w') : LE w0 b L T w' := by
  obtain ⟨G, h⟩ := h
  exact ⟨G, h.later hB⟩
/-- a byte as a text -/
theorem conv_msg {w w3 : World} {q i : Nat} (hw : w.alloc (.cells #[.int .u8 (i : Int)] 5) = w3) (hq : w.heap.size = q) (hi : i < 50) : (convert 48 9 (.slice (some ⟨q, 0, none⟩) 1 1)).run Try.prog w3 = .ok (.string (msg i)) w3 ∧ (convert 48 9 (.slice (some ⟨q, 0, none⟩) 1 1)).run Try.prog w3.drew = .ok (.string (msg i)) w3.drew := by
  have hc : w3.cell? ⟨q, 0, none⟩ = some (.int .u8 (((UInt8.ofNat i).toNat : Nat) : Int)) := by
    have hn : w3.heap[q]? = some (.cells #[.int .u8 (i : Int)] 5 (0, 0)) := by rw [← hw, ← hq]; exact heap_alloc_new _ _
    have e : (((UInt8.ofNat i).toNat : Nat) : Int) = (i : Int) := by
      rw [UInt8.toNat_ofNat']
      omega
    rw [e]
    simp [World.cell?, hn]
  have hcs : ∀ j (hj : j < [UInt8.ofNat i].length), w3.cell? ((⟨q, 0, none⟩ : Addr).add j) = some (.int .u8 (([UInt8.ofNat i][j].toNat : Nat) : Int)) := fun j hj => by
    have hj0 : j = 0 := by simpa using hj
    subst hj0
    rw [Addr.add_lit]
    exact hc
  exact ⟨run_convert_bytes_back (P := Try.prog) w3 48 9 5 ⟨q, 0, none⟩ 1 [UInt8.ofNat i] Try.underlying48 Try.underlying5 Try.underlying9 hcs,
    run_convert_bytes_back (P := Try.prog) w3.drew 48 9 5 ⟨q, 0, none⟩ 1 [UInt8.ofNat i] Try.underlying48 Try.underlying5 Try.underlying9 hcs⟩

set_option maxRecDepth 100000 in
set_option maxHeartbeats 16000000 in
theorem walk (v0 : Value) (l : List Int) (w : World) (hO : IntsAt w v0 l) (_hr : l.length ≤ 140737488351232 ∧ ∀ z ∈ l, IntOk z) :
    Calls Try.prog 6 #[v0] w fun e w' => e = .returned (.bool true) ∧ Below w.heap.size w w' := by
  obtain ⟨aa, capa, rfl, ha⟩ := hO
  have HA := Lib.hid ha
  have C0 := lg_new (w0 := w) 100 (by decide) (by decide) (Below.refl _ w)
  rw [show ((100 : Nat) : Int) = 100 from rfl] at C0
  obtain ⟨b, hb⟩ : ∃ b, w.heap.size = b := ⟨_, rfl⟩
  rw [hb] at C0
  obtain ⟨n, hn1, hn2, m1, m2, -⟩ := cut_to l.length 50 (by decide)
  have HN := Lib.hid (And.intro hn1 (show n ≤ 50 by omega))
  obtain ⟨d, hd⟩ : ∃ d, dOf l = d := ⟨_, rfl⟩
  have HD := Lib.hid (show ∀ i, 1 ≤ d i ∧ d i ≤ 8 from fun i => by rw [← hd]; exact ⟨(dOf_is l i).1, (dOf_is l i).2.1⟩)
  have HDL := Lib.hid (show ∀ i (h : i < l.length), bits .and .i64 l[i] 7 = ((d i - 1 : Nat) : Int) from fun i h => by
    have := (dOf_is l i).2.2
    rw [List.getD_eq_getElem?_getD, List.getElem?_eq_getElem h, hd] at this
    exact this)
  clear ha hn1 hn2 hd
  go_enter Try.func6, Try.ntmps6
  go_wp2_with fail
  refine C0.mono ?_
  rintro e w1 ⟨rfl, h1, -⟩
  have H1 := Lib.hid (show LE w b [] (Tn d 0 0) w1 from ⟨_, h1⟩)
  clear C0 h1 hb
  go_wp2_with fail
  clear m1 m2
  go_loopw [6] (fun i wr => ∃ k : Nat, k ≤ n ∧ i = .int .i64 k ∧ LE w b [] (Tn d k 0) wr) (fun i _ => n - (intOf i).toNat)
  case atStart => exact ⟨0, Nat.zero_le _, rfl, H1.out⟩
  case round =>
    clear H1
    obtain ⟨k, hk, rfl, hor⟩ := hrel
    by_cases hlt : k < n
    · have hki : (k : Int) < (n : Int) := by omega
      have hkl : k < l.length := Nat.lt_of_lt_of_le hlt HN.out.1
      have hkli : (k : Int) < (l.length : Int) := by omega
      have hk50 : k < 50 := Nat.lt_of_lt_of_le hlt HN.out.2
      have hwk := wrap_up hlt (by have := HN.out.2; omega)
      obtain ⟨ba, off, rfl, hba, hcells⟩ := HA.out (by intro e; rw [e] at hkl; simp at hkl)
      have c0 := (hor.below.cell (p := ⟨ba, off + k, none⟩) hba).trans (hcells k hkl)
      have hand := HDL.out k hkl
      obtain ⟨z, hz⟩ : ∃ z, l[k] = z := ⟨_, rfl⟩
      rw [hz] at c0 hand
      obtain ⟨hd1, hd2⟩ := HD.out k
      obtain ⟨y, hy⟩ : ∃ y : Int, ((d k - 1 : Nat) : Int) = y := ⟨_, rfl⟩
      rw [hy] at hand
      obtain ⟨D, hD⟩ : ∃ D : Int, ((d k : Nat) : Int) = D := ⟨_, rfl⟩
      have hadd : wrap64 (1 + y) = D := by unfold wrap64; omega
      have hadk : IntKind.i64.wrap (1 + y) = D := by rw [wrapI _ (by clear hwk hadd; omega) (by clear hwk hadd; omega)]; clear hwk hadd; omega
      have hu8 : IntKind.u8.wrap (k : Int) = (k : Int) := wrap8 k (by clear hwk hadd hadk; omega)
      obtain ⟨G, hG⟩ := hor
      have CS := fun (W : World) (hB : Below wr.heap.size wr W) => lg_send (hG.later hB) (by decide) (Nat.le_trans (Tn_len d 0 k) (by clear hwk hadd hadk; omega)) (msg k) (by show 1 ≤ _; decide) ⟨3, D, 0⟩ (by simp only; clear hwk hadd hadk; omega)
      have hse : sendE ⟨3, D, 0⟩ = 0 ∧ sendL 100 [] (msg k) ⟨3, D, 0⟩ = [] ∧ sendT (Tn d k 0) (msg k) ⟨3, D, 0⟩ = Tn d (k + 1) 0 := by
        have h1 : 1 ≤ D := by clear hwk hadd hadk; omega
        have h8 : D ≤ 8 := by clear hwk hadd hadk; omega
        have hm : mayV ⟨3, D, 0⟩ = true := by simp [mayV, h1, h8]
        refine ⟨by simp [sendE, hm], by simp [sendL, nowL, hm], ?_⟩
        rw [Tn, if_pos (by clear hwk hadd hadk; omega), sendT]
        simp only [hm]
        rw [← hD]
        simp
      rw [hse.1, hse.2.1, hse.2.2] at CS
      unfold fteV at CS
      simp only at CS
      rw [show (((0 : UInt8).toNat : Nat) : Int) = 0 from rfl] at CS
      have HCS := Lib.hid CS
      obtain ⟨w3, hw3⟩ : ∃ w3, wr.alloc (.cells #[.int .u8 (k : Int)] 5) = w3 := ⟨_, rfl⟩
      obtain ⟨q, hq⟩ : ∃ q, wr.heap.size = q := ⟨_, rfl⟩
      have hB3 : Below wr.heap.size wr w3 := by rw [← hw3]; exact (Below.refl _ wr).alloc (Nat.le_refl _) _
      obtain ⟨hcv0, hcv1⟩ := conv_msg hw3 hq hk50
      have c3 : w3.cell? ⟨ba, off + k, none⟩ = some (.int .i64 z) := (hB3.cell (p := ⟨ba, off + k, none⟩) (Nat.lt_of_lt_of_le hba hG.below.size)).trans c0
      have CS3 := HCS.out w3.drew hB3.drew
      have HK := Lib.hid hlt
      clear hk hlt hcells hG hse hd1 hd2 hD hz hkl CS HCS hB3
      go_wp2_with fail
      go_region_law (first
        | (go_simp; go_at_call 9; refine CS3.mono ?_; rintro e w5 ⟨rfl, h5, h5', -⟩; have H5 := Lib.hid h5'; clear h5'))
      all_goals (
        clear CS3 hcv0 hcv1
        go_wp2_with fail
        go_roundw
        case rel => exact ⟨k + 1, HK.out, (by first | exact num_up hwk | rfl), ⟨_, H5.out⟩⟩
        case measure => first | exact meas_v HK.out hwk rfl rfl | exact meas_u HK.out rfl rfl)
    · obtain rfl : k = n := by omega
      have HO := Lib.hid hor
      clear hor hk hlt
      go_wp2_with fail
      go_loopw [7] (fun st wx => ∃ t : Nat, 1 ≤ t ∧ t ≤ 9 ∧ st = .int .i64 t ∧ LE w b [] (Tn d k (t - 1)) wx) (fun st _ => 9 - (intOf st).toNat)
      case atStart => exact ⟨1, Nat.le_refl _, by decide, rfl, HO.out⟩
      case round =>
        clear HO
        obtain ⟨t, ht1, ht2, rfl, G, hG⟩ := hrel
        by_cases h8 : t ≤ 8
        · have hti : (t : Int) ≤ 8 := by omega
          have CS := lg_step hG (by decide) (Nat.le_trans (Tn_len d _ k) (by have := HN.out.2; omega)) (Tn_ok HD.out _ k)
          rw [step_is d (t - 1) k (by have := HN.out.2; omega), left_is, show t - 1 + 1 = t by omega] at CS
          have hwt := wrap_up (n := 9) (t := t) (by omega) (by decide)
          have HT := Lib.hid (show 1 ≤ t ∧ t < 9 from ⟨ht1, by clear hwt; omega⟩)
          clear hG ht1 ht2 h8
          go_wp2_with fail
          refine CS.mono ?_
          rintro e w3 ⟨rfl, G3, h3, -⟩
          have H3 := Lib.hid (show LE w b (Ln d k t) (Tn d k t) w3 from ⟨_, h3⟩)
          clear CS h3
          go_wp2_with fail
          go_loopw [8] (fun ix wy => ∃ (i : Nat) (P : List ByteArray), i ≤ k ∧ ix = .int .i64 i ∧ Ln d k t = Ln d i t ++ P ∧ LE w b P (Tn d k t) wy) (fun ix _ => k - (intOf ix).toNat)
          case atStart => exact ⟨0, Ln d k t, Nat.zero_le _, rfl, rfl, H3.out⟩
          case round =>
            clear H3
            obtain ⟨i, P, hi, rfl, hP, G4, hG4⟩ := hrel
            have hPl : P.length ≤ k := by
              have h1 := congrArg List.length hP
              have h2 := Ln_len d t k
              rw [List.length_append] at h1
              clear hwt
              omega
            by_cases hik : i < k
            · have hii : (i : Int) < (k : Int) := by clear hwt; omega
              have hil : i < l.length := Nat.lt_of_lt_of_le hik HN.out.1
              have hili : (i : Int) < (l.length : Int) := by clear hwt; omega
              have hi50 : i < 50 := Nat.lt_of_lt_of_le hik HN.out.2
              have hwi := wrap_up hik (by have := HN.out.2; clear hwt; omega)
              obtain ⟨ba, off, rfl, hba, hcells⟩ := HA.out (by intro e; rw [e] at hil; simp at hil)
              have c0 := (hG4.below.cell (p := ⟨ba, off + i, none⟩) hba).trans (hcells i hil)
              have hand := HDL.out i hil
              obtain ⟨z, hz⟩ : ∃ z, l[i] = z := ⟨_, rfl⟩
              rw [hz] at c0 hand
              obtain ⟨hd1, hd2⟩ := HD.out i
              obtain ⟨y, hy⟩ : ∃ y : Int, ((d i - 1 : Nat) : Int) = y := ⟨_, rfl⟩
              rw [hy] at hand
              obtain ⟨D, hD⟩ : ∃ D : Int, ((d i : Nat) : Int) = D := ⟨_, rfl⟩
              have hadd : wrap64 (1 + y) = D := by clear hwt hwi; unfold wrap64; omega
              obtain ⟨nx1, nx2⟩ := Ln_next hP hik
              have HIK := Lib.hid hik
              by_cases hdt : d i = t
              · obtain ⟨P', hP1, hP2⟩ := nx1 hdt
                subst hP1
                have hDt : D = (t : Int) := by clear hwt hwi hadd; omega
                subst hDt
                have CT := lg_take hG4 (by clear hwt hwi hadd; have := HN.out.2; omega)
                change Calls _ _ _ _ (fun e w' => e = .returned (.tuple #[.string (msg i), .bool true]) ∧ LD w 100 P' (Tn d k t) b G4 _ w') at CT
                have hu8 : IntKind.u8.wrap (i : Int) = (i : Int) := wrap8 i (by clear hwt hwi hadd; omega)
                have HP2 := Lib.hid hP2
                clear hG4 hP nx1 nx2 hcells hd1 hd2 hD hz hy hi hPl hdt hP2 hil hik
                go_wp2_with fail
                refine CT.mono ?_
                rintro e w5 ⟨rfl, G5, h5, -⟩
                obtain ⟨w6, hw6⟩ : ∃ w6, w5.alloc (.cells #[.int .u8 (i : Int)] 5) = w6 := ⟨_, rfl⟩
                obtain ⟨q, hq⟩ : ∃ q, w5.heap.size = q := ⟨_, rfl⟩
                obtain ⟨hcv0, hcv1⟩ := conv_msg hw6 hq hi50
                have hB6 : Below w5.heap.size w5 w6 := by rw [← hw6]; exact (Below.refl _ w5).alloc (Nat.le_refl _) _
                have H6 := Lib.hid (show LE w b P' (Tn d k t) w6 from ⟨_, h5.later hB6⟩)
                obtain ⟨M, hM⟩ : ∃ M, msg i = M := ⟨_, rfl⟩
                rw [hM] at hcv0 hcv1 ⊢
                have hxx : (M.toList != M.toList) = false := by simp
                clear CT h5 hB6 hM
                go_wp2
                go_roundw
                case rel => exact ⟨i + 1, P', HIK.out, (by first | exact num_up hwi | rfl), HP2.out, H6.out⟩
                case measure => first | exact meas_v HIK.out hwi rfl rfl | exact meas_u HIK.out rfl rfl
              · have hne : (D != (t : Int)) = true := bne_iff_ne.2 (by clear hwt hwi hadd; omega)
                have HP2 := Lib.hid (nx2 hdt)
                have H5 := Lib.hid (show LE w b P (Tn d k t) _ from ⟨_, hG4⟩)
                clear hG4 hP nx1 nx2 hcells hd1 hd2 hD hz hy hi hPl hdt hil hik
                go_wp2
                go_roundw
                case rel => exact ⟨i + 1, P, HIK.out, (by first | exact num_up hwi | rfl), HP2.out, H5.out⟩
                case measure => first | exact meas_v HIK.out hwi rfl rfl | exact meas_u HIK.out rfl rfl
            · obtain rfl : i = k := by clear hwt; omega
              have hii : ¬ (i : Int) < (i : Int) := by clear hwt; omega
              have hPn : P = [] := by
                have h1 := congrArg List.length hP
                rw [List.length_append] at h1
                exact List.eq_nil_of_length_eq_zero (by clear hwt; omega)
              subst hPn
              have CT := lg_take hG4 (by simp)
              change Calls _ _ _ _ (fun e w' => e = .returned (.tuple #[.string ⟨#[]⟩, .bool false]) ∧ LD w 100 [] (Tn d i t) b G4 _ w') at CT
              clear hG4 hP hi hPl hik
              go_wp2_with fail
              refine CT.mono ?_
              rintro e w5 ⟨rfl, G5, h5, -⟩
              have H5 := Lib.hid (show LE w b [] (Tn d i (t + 1 - 1)) w5 from ⟨_, h5⟩)
              clear CT h5
              go_wp2
              go_roundw
              case rel => exact ⟨t + 1, Nat.succ_pos _, HT.out.2, (by first | exact num_up hwt | rfl), H5.out⟩
              case measure => first | exact meas_v HT.out.2 hwt rfl rfl | exact meas_u HT.out.2 rfl rfl
        · obtain rfl : t = 9 := by omega
          have hti : ¬ ((9 : Nat) : Int) ≤ 8 := by decide
          have CW := lg_waits hG
          rw [show 9 - 1 = 8 from rfl, Tn_end HD.out k] at CW
          have HB := Lib.hid hG.below
          clear hG ht1 ht2 h8
          go_wp2_with fail
          refine CW.mono ?_
          rintro e w3 ⟨rfl, hB3⟩
          have HB3 := Lib.hid (HB.out.trans (hB3.mono HB.out.size))
          clear CW hB3
          go_wp2_with fail
          refine (fixed_any _).mono ?_
          rintro e w7 ⟨rfl, hB7⟩
          have HB7 := Lib.hid (HB3.out.trans (hB7.mono HB3.out.size))
          clear hB7
          go_wp2
          go_ret
          exact ⟨rfl, HB7.out⟩
set_option maxRecDepth 100000 in
/-- WHAT THE WALK GIVES, for every argument that can be read. -/
theorem contract (H : Type) (enc : TypeId × Value → H) (W : World) (base : Nat) (args : Array Value) (ds gs : List (DataW H)) (before : List MemPlace)
    (hval : ∀ (j : Nat) t v, Try.f6.params[j]? = some t → args[j]? = some v → Value.okWide Try.prog W .any base t v)
    (hW : DataW.Whole enc Try.prog Try.f6.params.toList Rows.linkLateSpec.vars false W args.toList ds gs before)
    (hreach : (DataW.weightsEach Try.prog (Try.f6.params.toList) ds).all (· ≤ reachBytes) = true) :
    Calls Try.prog 6 args W fun e W' => ∃ v, e = .returned v ∧ Rows.linkLateSpec.post enc Try.prog Try.f6 false true false false W args v W' := by
  have hW' := hW
  obtain ⟨p, q, hA0, hV, rfl, hfz, hnd⟩ := hW
  have hA : DataW.TrodAll enc Try.prog W 0 (fun _ => true) true Try.f6.params.toList args.toList ds p := hA0
  rw [Try.params6] at hA hval hreach
  obtain ⟨v0, d0, rfl, rfl, h0⟩ := trodAll_one hA
  obtain ⟨rfl, rfl⟩ := trodVars_none hV
  have lt0 : ∀ x ∈ p, x.block < W.heap.size := fun x hx => hW'.lt x (by simp [hx])
  obtain ⟨l0, k0, r0⟩ := ints_open (hval 0 47 v0 rfl rfl) h0 lt0 hreach (j := 0) rfl rfl
  clear hA0 hval
  simp only [List.append_nil] at hW'
  refine (walk v0 l0 W k0 r0).mono fun e W' ⟨he, hB⟩ => ?_
  subst he
  exact ⟨_, rfl, post_of_below (pa := p) (pv := []) hW' (fun _ _ _ => trodAll_mk1 (shut_bool Try.underlying4 _)) (fun sp hsp => trodAll_mk1 (WideElems.Trod_stays laidOut (by kernel_rfl) (of_decide_eq_true (by kernel_rfl)) h0 (fun x hx => hB.same (lt0 x hx)) (fun x hx => hsp x (by simp [hx])))) (fun _ _ => rfl) (by simp) hB (ok_one (by kernel_rfl) rfl (okWide_bool_mk Try.underlying4 _))⟩

theorem reads (os : Os) {H : Type} (enc : TypeId × Value → H) : ∃ places, DataW.whole enc Try.prog ((laidWorld os).forCall (fun _ _ => 0) ⟨#[], #[.slice none 0 0], []⟩).memory Try.f6.params.toList Rows.linkLateSpec.vars false (#[.slice none 0 0] : Array Value).toList 8 = some ([.nil], [], places) :=
  ⟨[], by kernel_rfl⟩

set_option maxRecDepth 100000 in
theorem lifted (os : Os) (started : os.Started) (H : Type) (enc : TypeId × Value → H) (F : Stop.Interp) :
    ReturnsInHanded {} Try.checked os 6 .any ((OpenSpec.ofChange Rows.linkLateSpec).preRow enc Try.prog Try.f6 Rows.linkLateRow.domain false Rows.linkLateRow.laid) (((OpenSpec.ofChange Rows.linkLateSpec).at F).post enc Try.prog Try.f6 false true false false) := by
  obtain ⟨places, hx⟩ := reads os enc
  refine returnsInHanded_of_row (C := Try.checked) (s := OpenSpec.ofChange Rows.linkLateSpec) own started (by kernel_rfl) Try.func6
    (witness_row_at (enc := enc) (C := Try.checked) false (laidWorld os) #[.slice none 0 0] rfl (by kernel_rfl) (by kernel_rfl) (by kernel_rfl)
      (OpenSpec.preRow_of_cond 8 hx (by kernel_rfl) (fun k hk => by cases hk) (by kernel_rfl) (laid_met os _))) ?_
  intro W base args ds gs before hval hW _ hcond hreach hL _ _
  obtain ⟨p, q, hA0, hV, hpq, hfz, hnd⟩ := id hW
  obtain ⟨rfl, _⟩ := trodVars_none hV
  rw [List.append_nil] at hreach
  exact contract H enc W base args ds [] before hval hW hreach

theorem said : Rows.LinkLateSaid :=
  OpenClaim.holds_of_cond 6 Try.f6 rfl rfl rfl rfl rfl rfl rfl ⟨rfl, rfl, rfl, rfl, rfl⟩ rfl rfl rfl rfl rfl (by kernel_rfl) Try.func6 (by kernel_rfl)
    (of_decide_eq_true (by kernel_rfl)) (by unfold Func.isWrapper; first | (rw [if_pos (by decide +kernel)]; kernel_rfl) | (rw [if_neg (by decide +kernel)]; exact ⟨rfl, rfl⟩))
    (fun os started H enc _ F => by rw [OpenClaim.pre_eq_preRow]; exact lifted os started H enc F)



end Go.Proofs.Ytiiplchakanomaa.llate

