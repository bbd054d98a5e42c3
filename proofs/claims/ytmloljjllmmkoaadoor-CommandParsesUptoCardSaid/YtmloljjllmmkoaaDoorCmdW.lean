/-
  The reference's Parse.
-/
import Derived.Test.YtmloljjllmmkoaaDoorCmdV
import Derived.Test.YtmloljjllmmkoaaDoorCmdU
namespace Go.Proofs.YtmloljjllmmkoaaDoor
open Go.RowKit Go

/-- no candidate of the kinds so far is the line's command -/
def NoC (l : List ByteArray) (s : ByteArray) (k : Nat) : Prop := ∀ j, j < k → ¬ IsLine (cand j l) s
theorem NoC.next {l : List ByteArray} {s : ByteArray} {k : Nat} (h : NoC l s k) (hn : ¬ IsLine (cand k l) s) : NoC l s (k + 1) := fun j hj => by
  by_cases e : j = k
  · subst e; exact hn
  · exact h j (by omega)
theorem NoC.none {l : List ByteArray} {s : ByteArray} (h : NoC l s 9) (hp : Parts 32 s l) (d : Cmd) : ¬ IsLine d s := fun hd => by
  obtain ⟨k, hk, _, hc, _, _⟩ := hd.cand hp
  exact h k hk (by rw [hc]; exact hd)
theorem few_none {l : List ByteArray} {s : ByteArray} (hp : Parts 32 s l) (h : l.length < 2 ∨ 4 < l.length) (d : Cmd) : ¬ IsLine d s := fun hd => by
  obtain ⟨k, _, _, _, h1, h2⟩ := hd.cand hp
  omega
/-- the candidate as it grows -/
def cand1 (k : Nat) (l : List ByteArray) : Cmd := ⟨k, wordAt l 1, ⟨#[]⟩, 0, ⟨#[]⟩⟩
def cand2 (k : Nat) (l : List ByteArray) : Cmd := ⟨k, wordAt l 1, (cand k l).dest, 0, ⟨#[]⟩⟩
def cand3 (k : Nat) (l : List ByteArray) : Cmd := ⟨k, wordAt l 1, (cand k l).dest, (cand k l).place, ⟨#[]⟩⟩
theorem atV_small : ∀ (l : List UInt8), l.length ≤ 6 → -100000000 ≤ atV l ∧ atV l ≤ 100000000
  | [], _ => by simp [atV]
  | [a], _ => by have := a.toNat_lt; simp only [atV, List.foldl_cons, List.foldl_nil]; omega
  | [a, b], _ => by have := a.toNat_lt; have := b.toNat_lt; simp only [atV, List.foldl_cons, List.foldl_nil]; omega
  | [a, b, c], _ => by have := a.toNat_lt; have := b.toNat_lt; have := c.toNat_lt; simp only [atV, List.foldl_cons, List.foldl_nil]; omega
  | [a, b, c, d], _ => by have := a.toNat_lt; have := b.toNat_lt; have := c.toNat_lt; have := d.toNat_lt; simp only [atV, List.foldl_cons, List.foldl_nil]; omega
  | [a, b, c, d, e], _ => by have := a.toNat_lt; have := b.toNat_lt; have := c.toNat_lt; have := d.toNat_lt; have := e.toNat_lt; simp only [atV, List.foldl_cons, List.foldl_nil]; omega
  | [a, b, c, d, e, f], _ => by have := a.toNat_lt; have := b.toNat_lt; have := c.toNat_lt; have := d.toNat_lt; have := e.toNat_lt; have := f.toNat_lt; simp only [atV, List.foldl_cons, List.foldl_nil]; omega
  | _ :: _ :: _ :: _ :: _ :: _ :: _ :: _, h => absurd h (by simp)
theorem unhex_len : ∀ (l : List UInt8), (unhex l).length ≤ l.length
  | [] => by simp [unhex]
  | [_] => by simp [unhex]
  | x :: y :: r => by
    have := unhex_len r
    simp only [unhex, List.length_cons]
    omega
theorem words_small {l : List ByteArray} {s : ByteArray} (hp : Parts 32 s l) (h2 : 2 ≤ l.length) (h4 : l.length ≤ 4) : (wordAt l 1).size + (wordAt l 2).size + (wordAt l 3).size ≤ s.size := by
  have hz : ∀ x : ByteArray, x.data.toList.length = x.size := fun x => Array.length_toList (xs := x.data)
  have hl : (joinB 32 l).length = s.size := by rw [hp.2.2, hz]
  have e0 : (⟨#[]⟩ : ByteArray).size = 0 := rfl
  rcases l with _ | ⟨a, _ | ⟨b, _ | ⟨c, _ | ⟨d, _ | ⟨e, r⟩⟩⟩⟩⟩
  · simp at h2
  · simp at h2
  · simp only [joinB, List.length_append, List.length_cons, hz] at hl
    simp only [wordAt, List.getElem?_cons_succ, List.getElem?_cons_zero, List.getElem?_nil, Option.getD_some, Option.getD_none, e0]
    omega
  · simp only [joinB, List.length_append, List.length_cons, hz] at hl
    simp only [wordAt, List.getElem?_cons_succ, List.getElem?_cons_zero, List.getElem?_nil, Option.getD_some, Option.getD_none, e0]
    omega
  · simp only [joinB, List.length_append, List.length_cons, hz] at hl
    simp only [wordAt, List.getElem?_cons_succ, List.getElem?_cons_zero, Option.getD_some]
    omega
  · simp at h4
theorem cand_small {l : List ByteArray} {s : ByteArray} (hp : Parts 32 s l) (hs : s.size ≤ 1048576) (h2 : 2 ≤ l.length) (h4 : l.length ≤ 4) (k : Nat) : SmallC (cand k l) := by
  have h := words_small hp h2 h4
  have e0 : (⟨#[]⟩ : ByteArray).size = 0 := rfl
  have hd : (cand k l).dest.size ≤ (wordAt l 2).size := by
    unfold cand; simp only; split
    · exact Nat.le_refl _
    · rw [e0]; exact Nat.zero_le _
  have hb : (cand k l).data.size ≤ (wordAt l 3).size := by
    unfold cand; simp only; split
    · rw [bs_size]
      have h1 := unhex_len (wordAt l 3).data.toList
      have h3 : (wordAt l 3).data.toList.length = (wordAt l 3).size := Array.length_toList (xs := (wordAt l 3).data)
      omega
    · rw [e0]; exact Nat.zero_le _
  unfold SmallC
  have hpth : (cand k l).path = wordAt l 1 := rfl
  rw [hpth]
  omega
theorem unhex_take : ∀ (l : List UInt8) (j : Nat), l.length ≤ 2 * j + 1 → unhex (l.take (2 * j)) = unhex l
  | [], j, _ => by simp
  | [x], 0, _ => by simp [unhex]
  | [x], j + 1, _ => by rw [show 2 * (j + 1) = 2 * j + 1 + 1 by omega]; simp
  | x :: y :: r, 0, h => absurd h (by simp)
  | x :: y :: r, j + 1, h => by
    have ih := unhex_take r j (by simp at h; omega)
    rw [show 2 * (j + 1) = 2 * j + 1 + 1 by omega]
    simp only [List.take_succ_cons, unhex]
    rw [ih]
theorem unhex_step : ∀ (l : List UInt8) (j : Nat) (x y : UInt8), l[2 * j]? = some x → l[2 * j + 1]? = some y → unhex (l.take (2 * j + 2)) = unhex (l.take (2 * j)) ++ [unB x y]
  | [], j, x, y, h, _ => by simp at h
  | [a], j, x, y, _, h => by simp at h
  | a :: b :: r, 0, x, y, h1, h2 => by
    simp at h1 h2
    subst h1 h2
    simp [unhex]
  | a :: b :: r, j + 1, x, y, h1, h2 => by
    rw [show 2 * (j + 1) = 2 * j + 1 + 1 by omega] at h1 h2
    simp only [List.getElem?_cons_succ] at h1 h2
    have ih := unhex_step r j x y h1 h2
    rw [show 2 * (j + 1) + 2 = (2 * j + 2) + 1 + 1 by omega, show 2 * (j + 1) = 2 * j + 1 + 1 by omega]
    simp only [List.take_succ_cons, unhex, List.cons_append]
    rw [ih]
theorem hexV_in (x : UInt8) : -48 ≤ hexV x ∧ hexV x ≤ 200 := by
  have := x.toNat_lt
  unfold hexV
  split <;> omega
theorem unB_wrap (x y : UInt8) : IntKind.u8.wrap (16 * hexV x + hexV y) = ((unB x y).toNat : Int) := by
  unfold unB
  generalize 16 * hexV x + hexV y = z
  have h : (UInt8.ofInt z).toNat = (z % 256).toNat := by
    simp [UInt8.ofInt]
    omega
  rw [h]
  simp [IntKind.wrap, IntKind.bits, IntKind.signed]
  omega
theorem print_line {c : Cmd} {s : ByteArray} {x : ByteArray} {n : Int} (h : PrintE c (.returned (.tuple #[.string x, .int .i64 n]))) : (n = 0 ∧ x = s) ↔ IsLine c s := by
  constructor
  · rintro ⟨rfl, rfl⟩
    rcases h with ⟨j, hj, hc, hm, he⟩ | ⟨_, he⟩
    · have : x = bs (lineK j c) := by injection he with he; simpa using he
      subst this
      exact line_self hj hc hm
    · injection he with he
      simp at he
  · rintro ⟨j, hj, hc, hm, hl⟩
    rcases h with ⟨i, hi, hci, hmi, he⟩ | ⟨hn, _⟩
    · have : (i : Int) = j := by rw [← hci, hc]
      obtain rfl : i = j := by omega
      injection he with he
      simp at he
      exact ⟨he.2, by rw [he.1, hl, bs_self]⟩
    · exact absurd ⟨j, hj, hc, hm⟩ hn
set_option maxRecDepth 100000 in
set_option maxHeartbeats 8000000 in
theorem rparse_any (s : ByteArray) (hs : s.size ≤ 1048576) (w : World) :
    Calls Tryd.prog 16 #[.string s] w fun e w' => ParseE s e ∧ Below w.heap.size w w' := by
  obtain ⟨w1, hw1⟩ : ∃ w1, w.alloc (CmdObj zeroC) = w1 := ⟨_, rfl⟩
  have hB1 : Below w.heap.size w w1 := by rw [← hw1]; exact (Below.refl _ w).alloc (Nat.le_refl _) _
  have ha1 : CmdAt zeroC w.heap.size w1 := by rw [← hw1]; exact .new _ _
  have HB1 := Lib.hid hB1
  have HA1 := Lib.hid ha1
  have CS := rwords_any s hs w1
  unfold CmdObj zeroC at hw1
  simp only at hw1
  clear hB1 ha1
  go_enter Tryd.func16, Tryd.ntmps16
  go_wp2_with fail
  refine CS.mono ?_
  rintro e w2 ⟨⟨l, hp, v, rfl, ht⟩, hB2⟩
  obtain ⟨ad, cap, rfl, hcell⟩ := ht
  have HP := Lib.hid hp
  have HB2 := Lib.hid (HB1.out.trans (hB2.mono HB1.out.size))
  have HA2 := Lib.hid (HA1.out.later hB2)
  obtain ⟨n, hn⟩ : ∃ n, l.length = n := ⟨_, rfl⟩
  have HN := Lib.hid hn
  obtain ⟨b, off, rfl, hcl⟩ := hcell hp.1
  have HW := Lib.hid (show ∀ W, Below w2.heap.size w2 W → ∀ j, j < n → W.cell? ⟨b, off + j, none⟩ = some (.string (wordAt l j)) from fun W hW j hj => by
    have hj : j < l.length := by rw [hn]; exact hj
    have h := hcl j hj
    have hb : b < w2.heap.size := by
      simp only [World.cell?] at h
      cases hx : w2.heap[b]? with
      | none => rw [hx] at h; simp at h
      | some o => exact lt_of_heap hx
    rw [(hW.cell (p := ⟨b, off + j, none⟩) hb).trans h]
    simp [wordAt, List.getElem?_eq_getElem hj])
  have H1 : 1 ≤ n := by rw [← hn]; cases l with | nil => exact absurd rfl hp.1 | cons _ _ => simp
  rw [hn]
  clear hp hB2 CS hw1 hn hcell hcl
  go_wp2
  go_loopw [5] (fun i wr => ∃ k : Nat, k ≤ 9 ∧ i = .int .i64 k ∧ Hid (NoC l s k) ∧ Hid (Below w2.heap.size w2 wr)) (fun i _ => 9 - (intOf i).toNat)
  case atStart => exact ⟨0, Nat.zero_le _, rfl, Lib.hid (fun _ h => absurd h (by omega)), Lib.hid (Below.refl _ _)⟩
  case round =>
    obtain ⟨k, hk, rfl, HNo, HB⟩ := hrel
    have hszr := HB.out.size
    by_cases hgo : k < 9 ∧ 2 ≤ n ∧ n ≤ 4
    · obtain ⟨hlt, hn2, hn4⟩ := hgo
      have hki : (k : Int) < 9 := by omega
      have hn2i : (2 : Int) ≤ (n : Int) := by omega
      have hn4i : (n : Int) ≤ 4 := by omega
      have hn1i : (1 : Int) < (n : Int) := by omega
      have c1 := HW.out wr HB.out 1 (by omega)
      obtain ⟨w4, hw4⟩ : ∃ w4, wr.alloc (CmdObj zeroC) = w4 := ⟨_, rfl⟩
      have ha4 : CmdAt zeroC wr.heap.size w4 := by rw [← hw4]; exact .new _ _
      have hB4 : Below wr.heap.size wr w4 := by rw [← hw4]; exact (Below.refl _ wr).alloc (Nat.le_refl _) _
      obtain ⟨x1, x2, x3, x4, x5, ⟨e1, e2, e3, e4, e5⟩, ⟨p1, p2, p3, p4, p5⟩, ⟨f1, f2, f3, f4, f5⟩, ha5, hs5⟩ := cmd_store (cand1 k l) ha4
      have HA5 := Lib.hid ha5
      have HB5 := Lib.hid (hB4.trans (hs5.below (B := wr.heap.size) (fun i hi => by subst hi; exact Nat.le_refl _) hB4.size))
      unfold zeroC at p1 p2 p3 p4 p5
      unfold CmdObj zeroC at hw4
      unfold cand1 at e1 e2 e3 e4 e5
      simp only at p1 p2 p3 p4 p5 hw4 e1 e2 e3 e4 e5
      clear ha4 hB4 ha5 hs5
      go_upto_region 6 with fail
      clear hw4 e1 e2 e3 e4 e5 p1 p2 p3 p4 p5 f1 f2 f3 f4 f5 c1
      obtain ⟨tB, hT⟩ : ∃ t, decide (k = 4 ∨ k = 5) = t := ⟨_, rfl⟩
      have HT := Lib.hid hT
      clear hT
      go_cut [38] from 33 to 37 (fun x wx => x = .bool tB ∧ wx = x5)
      case first =>
        by_cases h4 : k = 4
        · have b4 : ((k : Int) == 4) = true := beq_iff_eq.2 (by omega)
          obtain rfl : tB = true := by rw [← HT.out]; simp [h4]
          clear h4
          go_wp2
          go_meet
          exact ⟨rfl, rfl⟩
        · have b4 : ((k : Int) == 4) = false := beq_eq_false_iff_ne.2 (by omega)
          by_cases h5 : k = 5
          · have b5 : ((k : Int) == 5) = true := beq_iff_eq.2 (by omega)
            obtain rfl : tB = true := by rw [← HT.out]; simp [h5]
            clear h4 h5
            go_wp2
            go_meet
            exact ⟨rfl, rfl⟩
          · have b5 : ((k : Int) == 5) = false := beq_eq_false_iff_ne.2 (by omega)
            obtain rfl : tB = false := by rw [← HT.out]; simp [h4, h5]
            clear h4 h5
            go_wp2
            go_meet
            exact ⟨rfl, rfl⟩
      case rest =>
        obtain ⟨rfl, hx⟩ := hcut
        have hx := hx.symm
        subst hx
        go_upto_if 38 with fail
        go_cut [6] from 39 to 45 (fun v wx => v = .pointer (some ⟨wr.heap.size, 0, none⟩) ∧ Hid (Below wr.heap.size wr wx) ∧ Hid (CmdAt (cand2 k l) wr.heap.size wx))
        case first =>
          by_cases h3 : (k = 4 ∨ k = 5) ∧ n = 3
          · obtain ⟨hk45, rfl⟩ := h3
            obtain rfl : tB = true := by rw [← HT.out]; simp [hk45]
            have HC := Lib.hid (show cand2 k l = ⟨k, wordAt l 1, wordAt l 2, 0, ⟨#[]⟩⟩ from by unfold cand2 cand; simp only; rw [if_pos ⟨hk45, HN.out⟩])
            have hw5 : Below w2.heap.size w2 x5 := HB.out.trans (HB5.out.mono hszr)
            have c2 := HW.out x5 hw5 2 (by omega)
            obtain ⟨p0, p1, p2, p3, p4⟩ := HA5.out.cells
            have f2 := HA5.out.fr 2
            have hobj := HA5.out.obj
            obtain ⟨y1, hy1⟩ : ∃ y, x5.setCell ⟨wr.heap.size, 2, none⟩ (.string (wordAt l 2)) = y := ⟨_, rfl⟩
            have HA6 := Lib.hid (show CmdAt (cand2 k l) wr.heap.size y1 from ⟨by rw [← hy1, HC.out]; unfold cand1 CmdObj at hobj; rw [heap_set hobj]; rfl⟩)
            have HB6 := Lib.hid (show Below wr.heap.size wr y1 from by rw [← hy1]; exact HB5.out.setCell (Nat.le_refl _) _)
            unfold cand1 at p0 p1 p2 p3 p4
            simp only at p0 p1 p2 p3 p4
            clear hobj hw5 hk45
            go_wp2
            go_meet
            exact ⟨rfl, HB6, HA6⟩
          · have HC := Lib.hid (show CmdAt (cand2 k l) wr.heap.size x5 from by
              have e : cand2 k l = cand1 k l := by unfold cand2 cand cand1; simp only; rw [if_neg (by rw [HN.out]; exact h3)]
              rw [e]; exact HA5.out)
            by_cases h45 : k = 4 ∨ k = 5
            · obtain rfl : tB = true := by rw [← HT.out]; simp [h45]
              have hn3 : ((n : Int) == 3) = false := beq_eq_false_iff_ne.2 (fun e => h3 ⟨h45, by omega⟩)
              clear h3 h45
              go_wp2
              go_meet
              exact ⟨rfl, HB5, HC⟩
            · obtain rfl : tB = false := by rw [← HT.out]; simp [h45]
              clear h3 h45
              go_wp2
              go_meet
              exact ⟨rfl, HB5, HC⟩
        case rest =>
          obtain ⟨rfl, HB6, HA6⟩ := hcut
          obtain ⟨aB, hA⟩ : ∃ t, decide (k = 2 ∨ k = 3) = t := ⟨_, rfl⟩
          have HAt := Lib.hid hA
          clear hA HA5 HB5 HT
          go_upto_region 9 with fail
          go_cut [51] from 46 to 50 (fun x wx => x = .bool aB ∧ wx = wc)
          case first =>
            by_cases h4 : k = 2
            · have b4 : ((k : Int) == 2) = true := beq_iff_eq.2 (by omega)
              obtain rfl : aB = true := by rw [← HAt.out]; simp [h4]
              clear h4
              go_wp2
              go_meet
              exact ⟨rfl, rfl⟩
            · have b4 : ((k : Int) == 2) = false := beq_eq_false_iff_ne.2 (by omega)
              by_cases h5 : k = 3
              · have b5 : ((k : Int) == 3) = true := beq_iff_eq.2 (by omega)
                obtain rfl : aB = true := by rw [← HAt.out]; simp [h5]
                clear h4 h5
                go_wp2
                go_meet
                exact ⟨rfl, rfl⟩
              · have b5 : ((k : Int) == 3) = false := beq_eq_false_iff_ne.2 (by omega)
                obtain rfl : aB = false := by rw [← HAt.out]; simp [h4, h5]
                clear h4 h5
                go_wp2
                go_meet
                exact ⟨rfl, rfl⟩
          case rest =>
            obtain ⟨rfl, hx⟩ := hcut
            have hx := hx.symm
            subst hx
            go_upto_if 51 with fail
            go_cut [6] from 52 to 78 (fun v wx => v = .pointer (some ⟨wr.heap.size, 0, none⟩) ∧ Hid (Below wr.heap.size wr wx) ∧ Hid (CmdAt (cand3 k l) wr.heap.size wx))
            case first =>
              by_cases h3 : (k = 2 ∨ k = 3) ∧ 3 ≤ n
              · obtain ⟨hk23, hn3⟩ := h3
                obtain ⟨wo, hwo⟩ : ∃ x, x = wr := ⟨_, rfl⟩
                subst hwo
                obtain rfl : aB = true := by rw [← HAt.out]; simp [hk23]
                have hn3i : (3 : Int) ≤ (n : Int) := by omega
                have hn2l : (2 : Int) < (n : Int) := by omega
                obtain ⟨X, hX⟩ : ∃ X, wordAt l 2 = X := ⟨_, rfl⟩
                have HC := Lib.hid (show cand3 k l = ⟨k, wordAt l 1, (cand k l).dest, atV (X.data.toList.take 6), ⟨#[]⟩⟩ from by
                  have e : (cand k l).place = atV ((wordAt l 2).data.toList.take 6) := by unfold cand; simp only; rw [if_pos ⟨hk23, by rw [HN.out]; exact hn3⟩]
                  unfold cand3; rw [e, hX])
                have HWX := Lib.hid (show ∀ W, Below wo.heap.size wo W → W.cell? ⟨b, off + 2, none⟩ = some (.string X) from fun W h => by rw [← hX]; exact HW.out W (HB.out.trans (h.mono hszr)) 2 (by omega))
                have HXs : X.data.toList.length = X.size := Array.length_toList (xs := X.data)
                have hXb : X.size ≤ 1048576 := by
                  have := words_small HP.out (by rw [HN.out]; exact hn2) (by rw [HN.out]; exact hn4)
                  rw [hX] at this; omega
                have HA6' := Lib.hid (show CmdAt ⟨k, wordAt l 1, (cand k l).dest, atV (X.data.toList.take 0), ⟨#[]⟩⟩ wo.heap.size wc from HA6.out)
                obtain ⟨DD, hDD⟩ : ∃ x, (cand k l).dest = x := ⟨_, rfl⟩
                obtain ⟨PP, hPP⟩ : ∃ x, wordAt l 1 = x := ⟨_, rfl⟩
                rw [hDD, hPP] at HA6' HC
                have HXl := Lib.hid HXs
                clear hk23 hX hDD hPP HXs
                go_wp2
                go_loopw [7] (fun i wr => ∃ j : Nat, j ≤ 6 ∧ j ≤ X.size ∧ i = .int .i64 j ∧ Hid (Below wo.heap.size wo wr) ∧ Hid (CmdAt ⟨k, PP, DD, atV (X.data.toList.take j), ⟨#[]⟩⟩ wo.heap.size wr)) (fun i _ => 6 - (intOf i).toNat)
                case atStart => exact ⟨0, Nat.zero_le _, Nat.zero_le _, rfl, HB6, HA6'⟩
                case round =>
                  obtain ⟨j, hj6, hjs, rfl, HB7, HA7⟩ := hrel
                  have c2 := HWX.out _ HB7.out
                  by_cases hgo : j < X.size ∧ j < 6
                  · obtain ⟨hjX, hj⟩ := hgo
                    have hji : (j : Int) < (X.size : Int) := by omega
                    have hj6i : (j : Int) < 6 := by omega
                    obtain ⟨a, ha⟩ : ∃ a, atV (X.data.toList.take j) = a := ⟨_, rfl⟩
                    have hab := atV_small (X.data.toList.take j) (by rw [List.length_take]; omega)
                    have hst : atV (X.data.toList.take (j + 1)) = 10 * a + (X[j].toNat : Int) - 48 := by
                      have h := List.take_succ_eq_append_getElem (l := X.data.toList) (i := j) (by rw [HXl.out]; exact hjX)
                      have h2 : X.data.toList[j]'(by rw [HXl.out]; exact hjX) = X[j] := rfl
                      rw [h, atV_snoc, ha, h2]; omega
                    rw [ha] at hab
                    have hxn := X[j].toNat_lt
                    have g1 : IntKind.i64.wrap (10 * a) = 10 * a := wrapI _ (by omega) (by omega)
                    have g2 : IntKind.i64.wrap (X[j].toNat : Int) = (X[j].toNat : Int) := wrapI _ (by omega) (by omega)
                    have g3 : IntKind.i64.wrap (10 * a + (X[j].toNat : Int)) = 10 * a + (X[j].toNat : Int) := wrapI _ (by omega) (by omega)
                    have g4 : IntKind.i64.wrap (10 * a + (X[j].toNat : Int) - 48) = 10 * a + (X[j].toNat : Int) - 48 := wrapI _ (by omega) (by omega)
                    have hobj : wr.drew.heap[wo.heap.size]? = some (CmdObj ⟨k, PP, DD, atV (X.data.toList.take j), ⟨#[]⟩⟩) := HA7.out.obj
                    have d3 : wr.drew.cell? ⟨wo.heap.size, 3, none⟩ = some (.int .i64 a) := by rw [← ha]; exact HA7.out.cells.2.2.2.1
                    have f3 : wr.drew.frozen? ⟨wo.heap.size, 3, none⟩ = false := HA7.out.fr 3
                    have c2d : wr.drew.cell? ⟨b, off + 2, none⟩ = some (.string X) := c2
                    obtain ⟨y, hy⟩ : ∃ y, wr.drew.setCell ⟨wo.heap.size, 3, none⟩ (.int .i64 (10 * a + (X[j].toNat : Int) - 48)) = y := ⟨_, rfl⟩
                    have HA8 := Lib.hid (show CmdAt ⟨k, PP, DD, atV (X.data.toList.take (j + 1)), ⟨#[]⟩⟩ wo.heap.size y from ⟨by
                      rw [hst, ← hy]
                      unfold CmdObj at hobj ⊢
                      rw [heap_set hobj]
                      rfl⟩)
                    have HB8 := Lib.hid (show Below wo.heap.size wo y from by rw [← hy]; exact HB7.out.drew.setCell (Nat.le_refl _) _)
                    clear hobj hst ha hab
                    go_upto_region 14 with fail
                    refine wp_region_any (by kernel_rfl) ?_
                    change wpAny _ _ _ _ _ _ _ (World.drew _)
                    refine take_one 67 (i := 0) (v := .pointer (some ⟨wo.heap.size, 3, none⟩)) rfl rfl (by kernel_rfl) (by kernel_rfl) (by kernel_rfl) (fun _ _ _ h => h) (Or.inl ⟨by kernel_rfl, fun w => by (go_simp)⟩) ?_
                    simp only [Act.put, List.setIfInBounds_toArray, List.set_cons_zero, List.set_cons_succ]
                    refine take_one 70 (i := 3) (v := .slice (some ⟨b, off, none⟩) n cap) rfl rfl (by kernel_rfl) (by kernel_rfl) (by kernel_rfl) (fun _ _ _ h => h) (Or.inl ⟨by kernel_rfl, fun w => by (go_simp)⟩) ?_
                    simp only [Act.put, List.setIfInBounds_toArray, List.set_cons_zero, List.set_cons_succ]
                    refine take_one 71 (i := 4) (v := .pointer (some ⟨b, off + 2, none⟩)) rfl rfl (by kernel_rfl) (by kernel_rfl) (by kernel_rfl) (fun _ _ _ h => h) (Or.inl ⟨by kernel_rfl, fun w => by (go_simp)⟩) ?_
                    simp only [Act.put, List.setIfInBounds_toArray, List.set_cons_zero, List.set_cons_succ]
                    refine take_one 73 (i := 6) (v := .int .i64 j) rfl rfl (by kernel_rfl) (by kernel_rfl) (by kernel_rfl) (fun _ _ _ h => h) (Or.inl ⟨by kernel_rfl, fun w => by (go_simp)⟩) ?_
                    simp only [Act.put, List.setIfInBounds_toArray, List.set_cons_zero, List.set_cons_succ]
                    refine wpAny_ready (rs := [1, 5]) (by kernel_rfl) (by simp) ?_
                    refine AllReady.cons rfl (fun K hK => ?_) (AllReady.cons rfl (fun K hK => ?_) (AllReady.nil))
                    · go_simp
                      refine hK _ _ ?_
                      clear hK K
                      refine take_one 69 (i := 2) (v := .int .i64 (10 * a)) rfl rfl (by kernel_rfl) (by kernel_rfl) (by kernel_rfl) (fun _ _ _ h => h) (Or.inl ⟨by kernel_rfl, fun w => by (go_simp)⟩) ?_
                      simp only [Act.put, List.setIfInBounds_toArray, List.set_cons_zero, List.set_cons_succ]
                      refine wpAny_ready (rs := [5]) (by kernel_rfl) (by simp) ?_
                      refine AllReady.cons rfl (fun K hK => ?_) (AllReady.nil)
                      go_simp
                      refine hK _ _ ?_
                      clear hK K
                      refine take_one 74 (i := 7) (v := .int .u8 (X[j].toNat : Int)) rfl rfl (by kernel_rfl) (by kernel_rfl) (by kernel_rfl) (fun _ _ _ h => h) (Or.inl ⟨by kernel_rfl, fun w => by (go_simp)⟩) ?_
                      simp only [Act.put, List.setIfInBounds_toArray, List.set_cons_zero, List.set_cons_succ]
                      refine take_one 75 (i := 8) (v := .int .i64 (X[j].toNat : Int)) rfl rfl (by kernel_rfl) (by kernel_rfl) (by kernel_rfl) (fun _ _ _ h => h) (Or.inl ⟨by kernel_rfl, fun w => by (go_simp)⟩) ?_
                      simp only [Act.put, List.setIfInBounds_toArray, List.set_cons_zero, List.set_cons_succ]
                      refine take_one 76 (i := 9) (v := .int .i64 (10 * a + (X[j].toNat : Int))) rfl rfl (by kernel_rfl) (by kernel_rfl) (by kernel_rfl) (fun _ _ _ h => h) (Or.inl ⟨by kernel_rfl, fun w => by (go_simp)⟩) ?_
                      simp only [Act.put, List.setIfInBounds_toArray, List.set_cons_zero, List.set_cons_succ]
                      refine take_one 77 (i := 10) (v := .int .i64 (10 * a + (X[j].toNat : Int) - 48)) rfl rfl (by kernel_rfl) (by kernel_rfl) (by kernel_rfl) (fun _ _ _ h => h) (Or.inl ⟨by kernel_rfl, fun w => by (go_simp)⟩) ?_
                      simp only [Act.put, List.setIfInBounds_toArray, List.set_cons_zero, List.set_cons_succ]
                      refine take_one 78 (i := 11) (v := .pointer (some ⟨wo.heap.size, 3, none⟩)) rfl rfl (by kernel_rfl) (by kernel_rfl) (by kernel_rfl) (fun _ _ _ h => h) (Or.inl ⟨by kernel_rfl, fun w => by (go_simp)⟩) ?_
                      simp only [Act.put, List.setIfInBounds_toArray, List.set_cons_zero, List.set_cons_succ]
                      refine wpAny_ready (rs := [12]) (by kernel_rfl) (by simp) ?_
                      refine AllReady.cons rfl (fun K hK => ?_) (AllReady.nil)
                      go_simp
                      refine hK _ _ ?_
                      clear hK K
                      refine wpAny_done (by kernel_rfl) ?_ _
                      go_wp2
                      go_roundw
                      case rel => exact ⟨j + 1, by omega, hjX, by go_num, HB8, HA8⟩
                      case measure => simp [intOf]; omega
                    · go_simp
                      refine hK _ _ ?_
                      clear hK K
                      refine take_one 74 (i := 7) (v := .int .u8 (X[j].toNat : Int)) rfl rfl (by kernel_rfl) (by kernel_rfl) (by kernel_rfl) (fun _ _ _ h => h) (Or.inl ⟨by kernel_rfl, fun w => by (go_simp)⟩) ?_
                      simp only [Act.put, List.setIfInBounds_toArray, List.set_cons_zero, List.set_cons_succ]
                      refine take_one 75 (i := 8) (v := .int .i64 (X[j].toNat : Int)) rfl rfl (by kernel_rfl) (by kernel_rfl) (by kernel_rfl) (fun _ _ _ h => h) (Or.inl ⟨by kernel_rfl, fun w => by (go_simp)⟩) ?_
                      simp only [Act.put, List.setIfInBounds_toArray, List.set_cons_zero, List.set_cons_succ]
                      refine wpAny_ready (rs := [1]) (by kernel_rfl) (by simp) ?_
                      refine AllReady.cons rfl (fun K hK => ?_) (AllReady.nil)
                      go_simp
                      refine hK _ _ ?_
                      clear hK K
                      refine take_one 69 (i := 2) (v := .int .i64 (10 * a)) rfl rfl (by kernel_rfl) (by kernel_rfl) (by kernel_rfl) (fun _ _ _ h => h) (Or.inl ⟨by kernel_rfl, fun w => by (go_simp)⟩) ?_
                      simp only [Act.put, List.setIfInBounds_toArray, List.set_cons_zero, List.set_cons_succ]
                      refine take_one 76 (i := 9) (v := .int .i64 (10 * a + (X[j].toNat : Int))) rfl rfl (by kernel_rfl) (by kernel_rfl) (by kernel_rfl) (fun _ _ _ h => h) (Or.inl ⟨by kernel_rfl, fun w => by (go_simp)⟩) ?_
                      simp only [Act.put, List.setIfInBounds_toArray, List.set_cons_zero, List.set_cons_succ]
                      refine take_one 77 (i := 10) (v := .int .i64 (10 * a + (X[j].toNat : Int) - 48)) rfl rfl (by kernel_rfl) (by kernel_rfl) (by kernel_rfl) (fun _ _ _ h => h) (Or.inl ⟨by kernel_rfl, fun w => by (go_simp)⟩) ?_
                      simp only [Act.put, List.setIfInBounds_toArray, List.set_cons_zero, List.set_cons_succ]
                      refine take_one 78 (i := 11) (v := .pointer (some ⟨wo.heap.size, 3, none⟩)) rfl rfl (by kernel_rfl) (by kernel_rfl) (by kernel_rfl) (fun _ _ _ h => h) (Or.inl ⟨by kernel_rfl, fun w => by (go_simp)⟩) ?_
                      simp only [Act.put, List.setIfInBounds_toArray, List.set_cons_zero, List.set_cons_succ]
                      refine wpAny_ready (rs := [12]) (by kernel_rfl) (by simp) ?_
                      refine AllReady.cons rfl (fun K hK => ?_) (AllReady.nil)
                      go_simp
                      refine hK _ _ ?_
                      clear hK K
                      refine wpAny_done (by kernel_rfl) ?_ _
                      go_wp2
                      go_roundw
                      case rel => exact ⟨j + 1, by omega, hjX, by go_num, HB8, HA8⟩
                      case measure => simp [intOf]; omega
                  · have HCe := Lib.hid (show atV (X.data.toList.take j) = atV (X.data.toList.take 6) from by
                      by_cases h6 : j = 6
                      · rw [h6]
                      · have hx : X.data.toList.length = X.size := HXl.out
                        rw [List.take_of_length_le (by omega), List.take_of_length_le (by omega)])
                    have HA8 := Lib.hid (show CmdAt (cand3 k l) wo.heap.size wr from by rw [HC.out, ← HCe.out]; exact HA7.out)
                    by_cases g1 : (j : Int) < (X.size : Int)
                    · have g2 : ¬ (j : Int) < 6 := by omega
                      clear hgo
                      go_wp2
                      go_meet
                      exact ⟨rfl, HB7, HA8⟩
                    · clear hgo
                      go_wp2
                      go_meet
                      exact ⟨rfl, HB7, HA8⟩
              · have HC := Lib.hid (show CmdAt (cand3 k l) wr.heap.size wc from by
                  have e : cand3 k l = cand2 k l := by unfold cand3 cand2; rw [show (cand k l).place = 0 from by unfold cand; simp only; rw [if_neg (by rw [HN.out]; exact h3)]]
                  rw [e]; exact HA6.out)
                by_cases h45 : k = 2 ∨ k = 3
                · obtain rfl : aB = true := by rw [← HAt.out]; simp [h45]
                  have hn3 : ¬ (3 : Int) ≤ (n : Int) := fun e => h3 ⟨h45, by omega⟩
                  clear h3 h45
                  go_wp2
                  go_meet
                  exact ⟨rfl, HB6, HC⟩
                · obtain rfl : aB = false := by rw [← HAt.out]; simp [h45]
                  clear h3 h45
                  go_wp2
                  go_meet
                  exact ⟨rfl, HB6, HC⟩
            case rest =>
              obtain ⟨rfl, HB7, HA7⟩ := hcut
              obtain ⟨dB, hD⟩ : ∃ t, decide (k = 2 ∧ n = 4 ∧ (wordAt l 3).data.toList ≠ [45]) = t := ⟨_, rfl⟩
              have HDt := Lib.hid hD
              clear hD HB6 HA6 HAt
              go_upto_region 15 with fail
              go_cut [91] from 79 to 90 (fun x wx => x = .bool dB ∧ wx = wc)
              case first =>
                by_cases h2 : k = 2
                · have b2 : ((k : Int) == 2) = true := beq_iff_eq.2 (by omega)
                  by_cases h4 : n = 4
                  · have b4 : ((n : Int) == 4) = true := beq_iff_eq.2 (by omega)
                    have hn3l : (3 : Int) < (n : Int) := by omega
                    have c3 := HW.out wc (HB.out.trans (HB7.out.mono hszr)) 3 (by omega)
                    by_cases hw : (wordAt l 3).toList = [45]
                    · have b5 : ((wordAt l 3).toList == [45]) = true := beq_iff_eq.2 hw
                      obtain rfl : dB = false := by rw [← HDt.out]; simp [← toList_eq, hw]
                      clear h2 h4 hw
                      go_wp2
                      go_meet
                      exact ⟨rfl, rfl⟩
                    · have b5 : ((wordAt l 3).toList == [45]) = false := beq_eq_false_iff_ne.2 hw
                      obtain rfl : dB = true := by rw [← HDt.out]; simp [← toList_eq, hw, h2, h4]
                      clear h2 h4
                      go_wp2
                      go_meet
                      exact ⟨rfl, rfl⟩
                  · have b4 : ((n : Int) == 4) = false := beq_eq_false_iff_ne.2 (by omega)
                    obtain rfl : dB = false := by rw [← HDt.out]; simp [h4]
                    clear h2 h4
                    go_wp2
                    go_meet
                    exact ⟨rfl, rfl⟩
                · have b2 : ((k : Int) == 2) = false := beq_eq_false_iff_ne.2 (by omega)
                  obtain rfl : dB = false := by rw [← HDt.out]; simp [h2]
                  clear h2
                  go_wp2
                  go_meet
                  exact ⟨rfl, rfl⟩
              case rest =>
                obtain ⟨rfl, hx⟩ := hcut
                have hx := hx.symm
                subst hx
                go_upto_if 91 with fail
                go_cut [6] from 92 to 123 (fun v wx => v = .pointer (some ⟨wr.heap.size, 0, none⟩) ∧ Hid (Below wr.heap.size wr wx) ∧ Hid (CmdAt (cand k l) wr.heap.size wx))
                case first =>
                  by_cases h3 : dB = true
                  · subst h3
                    obtain ⟨hk2, hn4e, hw⟩ : k = 2 ∧ n = 4 ∧ (wordAt l 3).data.toList ≠ [45] := of_decide_eq_true HDt.out
                    obtain ⟨wo, hwo⟩ : ∃ x, x = wr := ⟨_, rfl⟩
                    subst hwo
                    have hn3l : (3 : Int) < (n : Int) := by omega
                    obtain ⟨X, hX⟩ : ∃ X, wordAt l 3 = X := ⟨_, rfl⟩
                    have HWX := Lib.hid (show ∀ W, Below wo.heap.size wo W → W.cell? ⟨b, off + 3, none⟩ = some (.string X) from fun W h => by rw [← hX]; exact HW.out W (HB.out.trans (h.mono hszr)) 3 (by omega))
                    have hXb : X.size ≤ 1048576 := by
                      have := words_small HP.out (by rw [HN.out]; exact hn2) (by rw [HN.out]; exact hn4)
                      rw [hX] at this; omega
                    have HC := Lib.hid (show cand k l = ⟨k, wordAt l 1, (cand k l).dest, (cand k l).place, bs (unhex X.data.toList)⟩ from by
                      have e2 : (cand k l).data = bs (unhex (wordAt l 3).data.toList) := by unfold cand; simp only; rw [if_pos ⟨hk2, by rw [HN.out]; exact hn4e, hw⟩]
                      rw [← hX, ← e2]
                      rfl)
                    have HXl := Lib.hid (show X.data.toList.length = X.size from Array.length_toList (xs := X.data))
                    have HA7' := Lib.hid (show CmdAt ⟨k, wordAt l 1, (cand k l).dest, (cand k l).place, ⟨#[]⟩⟩ wo.heap.size wc from HA7.out)
                    obtain ⟨DD, hDD⟩ : ∃ x, (cand k l).dest = x := ⟨_, rfl⟩
                    obtain ⟨AA, hAA⟩ : ∃ x, (cand k l).place = x := ⟨_, rfl⟩
                    obtain ⟨PP, hPP⟩ : ∃ x, wordAt l 1 = x := ⟨_, rfl⟩
                    rw [hDD, hPP, hAA] at HA7' HC
                    have hszc := HB7.out.size
                    have HR0 := Lib.hid (show (wc.alloc (.cells #[] 5)).ownsRow wc.heap.size 5 1 (.slice (some ⟨wc.heap.size, 0, none⟩) 0 0) 0 (u8s (unhex (X.data.toList.take 0))) from owns_none wc (Nat.le_refl _) _)
                    have HB0 := Lib.hid (show Below wc.heap.size wc (wc.alloc (.cells #[] 5)) from (Below.refl _ wc).alloc (Nat.le_refl _) _)
                    obtain ⟨i0, hi, hz0, hz1, hz2⟩ := info_parts info5
                    clear hX hDD hPP hAA hw hk2 hn4e HDt
                    go_wp2
                    go_loopw [8, 9] (fun v i wq => ∃ (p j : Nat), p = 2 * j ∧ p ≤ X.size ∧ i = .int .i64 p ∧ Hid (wq.ownsRow wc.heap.size 5 1 v j (u8s (unhex (X.data.toList.take p)))) ∧ Hid (Below wc.heap.size wc wq)) (fun _ i _ => X.size - (intOf i).toNat)
                    case atStart => exact ⟨0, 0, rfl, Nat.zero_le _, rfl, HR0, HB0⟩
                    case round =>
                      obtain ⟨p, j, hpj, hps, rfl, HR8, HB8⟩ := hrel
                      have hBw := HB7.out.trans (HB8.out.mono hszc)
                      have c3 := HWX.out wr hBw
                      have g0 : IntKind.i64.wrap ((p : Int) + 1) = (p : Int) + 1 := wrapI _ (by omega) (by omega)
                      by_cases hlt : p + 1 < X.size
                      · have hp0i : (p : Int) < (X.size : Int) := by omega
                        have hp1i : (p : Int) + 1 < (X.size : Int) := by omega
                        have hp0 : p < X.size := by omega
                        have hp1n : (0 : Int) ≤ (p : Int) + 1 := by omega
                        have hp1m : ¬ ((p : Int) + 1 < 0) := by omega
                        obtain ⟨x, hx⟩ : ∃ x, X[p] = x := ⟨_, rfl⟩
                        obtain ⟨y, hy⟩ : ∃ y, X[p + 1] = y := ⟨_, rfl⟩
                        have HT := Lib.hid (show unhex (X.data.toList.take (p + 2)) = unhex (X.data.toList.take p) ++ [unB x y] from by
                          subst hpj
                          refine unhex_step _ j x y ?_ ?_
                          · rw [← hx]; exact List.getElem?_eq_getElem (by rw [HXl.out]; omega)
                          · rw [← hy]; exact List.getElem?_eq_getElem (by rw [HXl.out]; omega))
                        have C1 := fun w => rvalue_any x w
                        have C2 := fun w => rvalue_any y w
                        have hbx := hexV_in x
                        have hby := hexV_in y
                        have hun := unB_wrap x y
                        obtain ⟨hxv, hhx⟩ : ∃ z, hexV x = z := ⟨_, rfl⟩
                        obtain ⟨hyv, hhy⟩ : ∃ z, hexV y = z := ⟨_, rfl⟩
                        obtain ⟨z, hz⟩ : ∃ z, unB x y = z := ⟨_, rfl⟩
                        rw [hhx] at C1 hbx hun
                        rw [hhy] at C2 hby hun
                        rw [hz] at hun HT
                        have g1 : IntKind.i64.wrap (16 * hxv) = 16 * hxv := wrapI _ (by omega) (by omega)
                        have g2 : IntKind.i64.wrap (16 * hxv + hyv) = 16 * hxv + hyv := wrapI _ (by omega) (by omega)
                        have g3 : IntKind.i64.wrap ((p : Int) + 2) = (p : Int) + 2 := wrapI _ (by omega) (by omega)
                        have hx0 : (X[p].toNat : Int) = (x.toNat : Int) := by rw [hx]
                        have hrow := HR8.out
                        have hB := HB8.out
                        have hrd : wr.drew.ownsRow wc.heap.size 5 1 u8 j (u8s (unhex (X.data.toList.take p))) := hrow
                        have hsz := hB.size
                        have c3d : wr.drew.cell? ⟨b, off + 3, none⟩ = some (.string X) := c3
                        have hj6 : j ≤ 1048576 := by omega
                        have HPJ := Lib.hid hpj
                        clear hhx hhy hz hpj
                        go_upto_region 20 with fail
                        refine wp_region_any (by kernel_rfl) ?_
                        change wpAny _ _ _ _ _ _ _ (World.drew _)
                        refine take_one 102 (i := 0) (v := u8) rfl rfl (by kernel_rfl) (by kernel_rfl) (by kernel_rfl) (fun _ _ _ h => h) (Or.inl ⟨by kernel_rfl, fun w => by (go_simp)⟩) ?_
                        simp only [Act.put, List.setIfInBounds_toArray, List.set_cons_zero, List.set_cons_succ]
                        refine take_one 103 (i := 1) (v := .slice (some ⟨b, off, none⟩) n cap) rfl rfl (by kernel_rfl) (by kernel_rfl) (by kernel_rfl) (fun _ _ _ h => h) (Or.inl ⟨by kernel_rfl, fun w => by (go_simp)⟩) ?_
                        simp only [Act.put, List.setIfInBounds_toArray, List.set_cons_zero, List.set_cons_succ]
                        refine take_one 104 (i := 2) (v := .pointer (some ⟨b, off + 3, none⟩)) rfl rfl (by kernel_rfl) (by kernel_rfl) (by kernel_rfl) (fun _ _ _ h => h) (Or.inl ⟨by kernel_rfl, fun w => by (go_simp)⟩) ?_
                        simp only [Act.put, List.setIfInBounds_toArray, List.set_cons_zero, List.set_cons_succ]
                        refine take_one 106 (i := 4) (v := .int .i64 p) rfl rfl (by kernel_rfl) (by kernel_rfl) (by kernel_rfl) (fun _ _ _ h => h) (Or.inl ⟨by kernel_rfl, fun w => by (go_simp)⟩) ?_
                        simp only [Act.put, List.setIfInBounds_toArray, List.set_cons_zero, List.set_cons_succ]
                        refine take_one 110 (i := 8) (v := .slice (some ⟨b, off, none⟩) n cap) rfl rfl (by kernel_rfl) (by kernel_rfl) (by kernel_rfl) (fun _ _ _ h => h) (Or.inl ⟨by kernel_rfl, fun w => by (go_simp)⟩) ?_
                        simp only [Act.put, List.setIfInBounds_toArray, List.set_cons_zero, List.set_cons_succ]
                        refine take_one 111 (i := 9) (v := .pointer (some ⟨b, off + 3, none⟩)) rfl rfl (by kernel_rfl) (by kernel_rfl) (by kernel_rfl) (fun _ _ _ h => h) (Or.inl ⟨by kernel_rfl, fun w => by (go_simp)⟩) ?_
                        simp only [Act.put, List.setIfInBounds_toArray, List.set_cons_zero, List.set_cons_succ]
                        refine take_one 113 (i := 11) (v := .int .i64 p) rfl rfl (by kernel_rfl) (by kernel_rfl) (by kernel_rfl) (fun _ _ _ h => h) (Or.inl ⟨by kernel_rfl, fun w => by (go_simp)⟩) ?_
                        simp only [Act.put, List.setIfInBounds_toArray, List.set_cons_zero, List.set_cons_succ]
                        refine take_one 114 (i := 12) (v := .int .i64 (p + 1)) rfl rfl (by kernel_rfl) (by kernel_rfl) (by kernel_rfl) (fun _ _ _ h => h) (Or.inl ⟨by kernel_rfl, fun w => by (go_simp)⟩) ?_
                        simp only [Act.put, List.setIfInBounds_toArray, List.set_cons_zero, List.set_cons_succ]
                        refine wpAny_ready (rs := [3, 10]) (by kernel_rfl) (by simp) ?_
                        refine AllReady.cons rfl (fun K hK => ?_) (AllReady.cons rfl (fun K hK => ?_) (AllReady.nil))
                        · go_simp
                          refine hK _ _ ?_
                          clear hK K
                          refine take_one 107 (i := 5) (v := .int .u8 (x.toNat : Int)) rfl rfl (by kernel_rfl) (by kernel_rfl) (by kernel_rfl) (fun _ _ _ h => h) (Or.inl ⟨by kernel_rfl, fun w => by (go_simp)⟩) ?_
                          simp only [Act.put, List.setIfInBounds_toArray, List.set_cons_zero, List.set_cons_succ]
                          refine wpAny_ready (rs := [6, 10]) (by kernel_rfl) (by simp) ?_
                          refine AllReady.cons rfl (fun K hK => ?_) (AllReady.cons rfl (fun K hK => ?_) (AllReady.nil))
                          · go_simp
                            go_at_call 29
                            refine (C1 _).mono ?_
                            rintro e w' ⟨rfl, rfl⟩
                            go_wp2_with fail
                            refine take_one 109 (i := 7) (v := .int .i64 (16 * hxv)) rfl rfl (by kernel_rfl) (by kernel_rfl) (by kernel_rfl) (fun _ _ _ h => h) (Or.inl ⟨by kernel_rfl, fun w => by (go_simp)⟩) ?_
                            simp only [Act.put, List.setIfInBounds_toArray, List.set_cons_zero, List.set_cons_succ]
                            refine wpAny_ready (rs := [10]) (by kernel_rfl) (by simp) ?_
                            refine AllReady.cons rfl (fun K hK => ?_) (AllReady.nil)
                            go_simp
                            refine hK _ _ ?_
                            clear hK K
                            refine take_one 115 (i := 13) (v := .int .u8 (y.toNat : Int)) rfl rfl (by kernel_rfl) (by kernel_rfl) (by kernel_rfl) (fun _ _ _ h => h) (Or.inl ⟨by kernel_rfl, fun w => by (go_simp)⟩) ?_
                            simp only [Act.put, List.setIfInBounds_toArray, List.set_cons_zero, List.set_cons_succ]
                            refine wpAny_ready (rs := [14]) (by kernel_rfl) (by simp) ?_
                            refine AllReady.cons rfl (fun K hK => ?_) (AllReady.nil)
                            go_simp
                            go_at_call 29
                            refine (C2 _).mono ?_
                            rintro e w' ⟨rfl, rfl⟩
                            go_wp2_with fail
                            refine take_one 117 (i := 15) (v := .int .i64 (16 * hxv + hyv)) rfl rfl (by kernel_rfl) (by kernel_rfl) (by kernel_rfl) (fun _ _ _ h => h) (Or.inl ⟨by kernel_rfl, fun w => by (go_simp)⟩) ?_
                            simp only [Act.put, List.setIfInBounds_toArray, List.set_cons_zero, List.set_cons_succ]
                            refine take_one 118 (i := 16) (v := .int .u8 (z.toNat : Int)) rfl rfl (by kernel_rfl) (by kernel_rfl) (by kernel_rfl) (fun _ _ _ h => h) (Or.inl ⟨by kernel_rfl, fun w => by (go_simp)⟩) ?_
                            simp only [Act.put, List.setIfInBounds_toArray, List.set_cons_zero, List.set_cons_succ]
                            refine wpAny_ready (rs := [17]) (by kernel_rfl) (by simp) ?_
                            refine AllReady.cons rfl (fun K hK => ?_) (AllReady.nil)
                            go_simp
                            refine hK _ _ ?_
                            clear hK K
                            refine wpAny_ready (rs := [18]) (by kernel_rfl) (by simp) ?_
                            refine AllReady.cons rfl (fun K hK => ?_) (AllReady.nil)
                            refine step_append_own _ (by rfl) (.tmp 102) (.tmp 119) _ (by rfl) wc.heap.size 5 i0 (.int .u8 0) 1 1 Tryd.underlying51 hi hz0 hz1 hz2 rfl (by decide) _ j _ (by rfl) (hrd.alloc _) ⟨wr.heap.size, 0, none⟩ 1 1 [.int .u8 (z.toNat : Int)] (by rfl) rfl (cell_one_made _ _ _) (by simp [Value.oneCell']) (by unfold maxLen; omega) (by omega) (Nat.le_trans hsz (by simp)) ?_
                            intro v' w3 hown' hgrow _ _
                            have HB9 := Lib.hid (hB.drew.trans (((Below.refl _ wr.drew).alloc hsz _).grown hgrow (by simp; omega) (fun j ej => (hrow.lt j ej).1)))
                            have HO := Lib.hid hown'
                            clear hown' hgrow
                            go_simp
                            refine hK _ _ ?_
                            clear hK K
                            refine take_one 8 (i := 19) (v := v') rfl rfl (by kernel_rfl) (by kernel_rfl) (by kernel_rfl) (fun _ _ _ h => h) (Or.inl ⟨by kernel_rfl, fun w => by (go_simp)⟩) ?_
                            simp only [Act.put, List.setIfInBounds_toArray, List.set_cons_zero, List.set_cons_succ]
                            refine wpAny_done (by kernel_rfl) ?_ _
                            go_wp2
                            go_roundw
                            case rel => exact ⟨p + 2, j + 1, by have := HPJ.out; omega, by omega, by go_num, Lib.hid (by rw [HT.out, u8s_app]; exact HO.out), HB9⟩
                            case measure => simp [intOf]; omega
                          · go_simp
                            refine hK _ _ ?_
                            clear hK K
                            refine take_one 115 (i := 13) (v := .int .u8 (y.toNat : Int)) rfl rfl (by kernel_rfl) (by kernel_rfl) (by kernel_rfl) (fun _ _ _ h => h) (Or.inl ⟨by kernel_rfl, fun w => by (go_simp)⟩) ?_
                            simp only [Act.put, List.setIfInBounds_toArray, List.set_cons_zero, List.set_cons_succ]
                            refine wpAny_ready (rs := [6]) (by kernel_rfl) (by simp) ?_
                            refine AllReady.cons rfl (fun K hK => ?_) (AllReady.nil)
                            go_simp
                            go_at_call 29
                            refine (C1 _).mono ?_
                            rintro e w' ⟨rfl, rfl⟩
                            go_wp2_with fail
                            refine take_one 109 (i := 7) (v := .int .i64 (16 * hxv)) rfl rfl (by kernel_rfl) (by kernel_rfl) (by kernel_rfl) (fun _ _ _ h => h) (Or.inl ⟨by kernel_rfl, fun w => by (go_simp)⟩) ?_
                            simp only [Act.put, List.setIfInBounds_toArray, List.set_cons_zero, List.set_cons_succ]
                            refine wpAny_ready (rs := [14]) (by kernel_rfl) (by simp) ?_
                            refine AllReady.cons rfl (fun K hK => ?_) (AllReady.nil)
                            go_simp
                            go_at_call 29
                            refine (C2 _).mono ?_
                            rintro e w' ⟨rfl, rfl⟩
                            go_wp2_with fail
                            refine take_one 117 (i := 15) (v := .int .i64 (16 * hxv + hyv)) rfl rfl (by kernel_rfl) (by kernel_rfl) (by kernel_rfl) (fun _ _ _ h => h) (Or.inl ⟨by kernel_rfl, fun w => by (go_simp)⟩) ?_
                            simp only [Act.put, List.setIfInBounds_toArray, List.set_cons_zero, List.set_cons_succ]
                            refine take_one 118 (i := 16) (v := .int .u8 (z.toNat : Int)) rfl rfl (by kernel_rfl) (by kernel_rfl) (by kernel_rfl) (fun _ _ _ h => h) (Or.inl ⟨by kernel_rfl, fun w => by (go_simp)⟩) ?_
                            simp only [Act.put, List.setIfInBounds_toArray, List.set_cons_zero, List.set_cons_succ]
                            refine wpAny_ready (rs := [17]) (by kernel_rfl) (by simp) ?_
                            refine AllReady.cons rfl (fun K hK => ?_) (AllReady.nil)
                            go_simp
                            refine hK _ _ ?_
                            clear hK K
                            refine wpAny_ready (rs := [18]) (by kernel_rfl) (by simp) ?_
                            refine AllReady.cons rfl (fun K hK => ?_) (AllReady.nil)
                            refine step_append_own _ (by rfl) (.tmp 102) (.tmp 119) _ (by rfl) wc.heap.size 5 i0 (.int .u8 0) 1 1 Tryd.underlying51 hi hz0 hz1 hz2 rfl (by decide) _ j _ (by rfl) (hrd.alloc _) ⟨wr.heap.size, 0, none⟩ 1 1 [.int .u8 (z.toNat : Int)] (by rfl) rfl (cell_one_made _ _ _) (by simp [Value.oneCell']) (by unfold maxLen; omega) (by omega) (Nat.le_trans hsz (by simp)) ?_
                            intro v' w3 hown' hgrow _ _
                            have HB9 := Lib.hid (hB.drew.trans (((Below.refl _ wr.drew).alloc hsz _).grown hgrow (by simp; omega) (fun j ej => (hrow.lt j ej).1)))
                            have HO := Lib.hid hown'
                            clear hown' hgrow
                            go_simp
                            refine hK _ _ ?_
                            clear hK K
                            refine take_one 8 (i := 19) (v := v') rfl rfl (by kernel_rfl) (by kernel_rfl) (by kernel_rfl) (fun _ _ _ h => h) (Or.inl ⟨by kernel_rfl, fun w => by (go_simp)⟩) ?_
                            simp only [Act.put, List.setIfInBounds_toArray, List.set_cons_zero, List.set_cons_succ]
                            refine wpAny_done (by kernel_rfl) ?_ _
                            go_wp2
                            go_roundw
                            case rel => exact ⟨p + 2, j + 1, by have := HPJ.out; omega, by omega, by go_num, Lib.hid (by rw [HT.out, u8s_app]; exact HO.out), HB9⟩
                            case measure => simp [intOf]; omega
                        · go_simp
                          refine hK _ _ ?_
                          clear hK K
                          refine take_one 115 (i := 13) (v := .int .u8 (y.toNat : Int)) rfl rfl (by kernel_rfl) (by kernel_rfl) (by kernel_rfl) (fun _ _ _ h => h) (Or.inl ⟨by kernel_rfl, fun w => by (go_simp)⟩) ?_
                          simp only [Act.put, List.setIfInBounds_toArray, List.set_cons_zero, List.set_cons_succ]
                          refine wpAny_ready (rs := [3]) (by kernel_rfl) (by simp) ?_
                          refine AllReady.cons rfl (fun K hK => ?_) (AllReady.nil)
                          go_simp
                          refine hK _ _ ?_
                          clear hK K
                          refine take_one 107 (i := 5) (v := .int .u8 (x.toNat : Int)) rfl rfl (by kernel_rfl) (by kernel_rfl) (by kernel_rfl) (fun _ _ _ h => h) (Or.inl ⟨by kernel_rfl, fun w => by (go_simp)⟩) ?_
                          simp only [Act.put, List.setIfInBounds_toArray, List.set_cons_zero, List.set_cons_succ]
                          refine wpAny_ready (rs := [6]) (by kernel_rfl) (by simp) ?_
                          refine AllReady.cons rfl (fun K hK => ?_) (AllReady.nil)
                          go_simp
                          go_at_call 29
                          refine (C1 _).mono ?_
                          rintro e w' ⟨rfl, rfl⟩
                          go_wp2_with fail
                          refine take_one 109 (i := 7) (v := .int .i64 (16 * hxv)) rfl rfl (by kernel_rfl) (by kernel_rfl) (by kernel_rfl) (fun _ _ _ h => h) (Or.inl ⟨by kernel_rfl, fun w => by (go_simp)⟩) ?_
                          simp only [Act.put, List.setIfInBounds_toArray, List.set_cons_zero, List.set_cons_succ]
                          refine wpAny_ready (rs := [14]) (by kernel_rfl) (by simp) ?_
                          refine AllReady.cons rfl (fun K hK => ?_) (AllReady.nil)
                          go_simp
                          go_at_call 29
                          refine (C2 _).mono ?_
                          rintro e w' ⟨rfl, rfl⟩
                          go_wp2_with fail
                          refine take_one 117 (i := 15) (v := .int .i64 (16 * hxv + hyv)) rfl rfl (by kernel_rfl) (by kernel_rfl) (by kernel_rfl) (fun _ _ _ h => h) (Or.inl ⟨by kernel_rfl, fun w => by (go_simp)⟩) ?_
                          simp only [Act.put, List.setIfInBounds_toArray, List.set_cons_zero, List.set_cons_succ]
                          refine take_one 118 (i := 16) (v := .int .u8 (z.toNat : Int)) rfl rfl (by kernel_rfl) (by kernel_rfl) (by kernel_rfl) (fun _ _ _ h => h) (Or.inl ⟨by kernel_rfl, fun w => by (go_simp)⟩) ?_
                          simp only [Act.put, List.setIfInBounds_toArray, List.set_cons_zero, List.set_cons_succ]
                          refine wpAny_ready (rs := [17]) (by kernel_rfl) (by simp) ?_
                          refine AllReady.cons rfl (fun K hK => ?_) (AllReady.nil)
                          go_simp
                          refine hK _ _ ?_
                          clear hK K
                          refine wpAny_ready (rs := [18]) (by kernel_rfl) (by simp) ?_
                          refine AllReady.cons rfl (fun K hK => ?_) (AllReady.nil)
                          refine step_append_own _ (by rfl) (.tmp 102) (.tmp 119) _ (by rfl) wc.heap.size 5 i0 (.int .u8 0) 1 1 Tryd.underlying51 hi hz0 hz1 hz2 rfl (by decide) _ j _ (by rfl) (hrd.alloc _) ⟨wr.heap.size, 0, none⟩ 1 1 [.int .u8 (z.toNat : Int)] (by rfl) rfl (cell_one_made _ _ _) (by simp [Value.oneCell']) (by unfold maxLen; omega) (by omega) (Nat.le_trans hsz (by simp)) ?_
                          intro v' w3 hown' hgrow _ _
                          have HB9 := Lib.hid (hB.drew.trans (((Below.refl _ wr.drew).alloc hsz _).grown hgrow (by simp; omega) (fun j ej => (hrow.lt j ej).1)))
                          have HO := Lib.hid hown'
                          clear hown' hgrow
                          go_simp
                          refine hK _ _ ?_
                          clear hK K
                          refine take_one 8 (i := 19) (v := v') rfl rfl (by kernel_rfl) (by kernel_rfl) (by kernel_rfl) (fun _ _ _ h => h) (Or.inl ⟨by kernel_rfl, fun w => by (go_simp)⟩) ?_
                          simp only [Act.put, List.setIfInBounds_toArray, List.set_cons_zero, List.set_cons_succ]
                          refine wpAny_done (by kernel_rfl) ?_ _
                          go_wp2
                          go_roundw
                          case rel => exact ⟨p + 2, j + 1, by have := HPJ.out; omega, by omega, by go_num, Lib.hid (by rw [HT.out, u8s_app]; exact HO.out), HB9⟩
                          case measure => simp [intOf]; omega
                      · have HE := Lib.hid (show unhex (X.data.toList.take p) = unhex X.data.toList from by
                          subst hpj
                          exact unhex_take _ _ (by rw [HXl.out]; omega))
                        have hl : (unhex X.data.toList).length = j := by
                          have h1 := HR8.out.1
                          rw [u8s_len, HE.out] at h1
                          omega
                        have hrow := HR8.out
                        rw [HE.out, ← hl] at hrow
                        have hcv := conv_own wr wc.heap.size _ _ hrow
                        have ha9 := HA7'.out.later HB8.out
                        have hobj := ha9.obj
                        obtain ⟨-, -, -, -, d4⟩ := ha9.cells
                        have f4 := ha9.fr 4
                        obtain ⟨y, hy⟩ : ∃ y, wr.setCell ⟨wo.heap.size, 4, none⟩ (.string (bs (unhex X.data.toList))) = y := ⟨_, rfl⟩
                        have HA9 := Lib.hid (show CmdAt (cand k l) wo.heap.size y from ⟨by
                          rw [HC.out, ← hy]
                          unfold CmdObj at hobj ⊢
                          rw [heap_set hobj]
                          rfl⟩)
                        have HB9 := Lib.hid (show Below wo.heap.size wo y from by rw [← hy]; exact hBw.setCell (Nat.le_refl _) _)
                        have hp1i : ¬ (p : Int) + 1 < (X.size : Int) := by omega
                        simp only at d4
                        clear ha9 hobj hrow hl hlt hpj
                        go_wp2
                        go_meet
                        exact ⟨rfl, HB9, HA9⟩
                  · obtain rfl : dB = false := by simpa using h3
                    have HC := Lib.hid (show CmdAt (cand k l) wr.heap.size wc from by
                      have e : cand k l = cand3 k l := by
                        have h5 : ¬ (k = 2 ∧ l.length = 4 ∧ (wordAt l 3).data.toList ≠ [45]) := by rw [HN.out]; exact of_decide_eq_false HDt.out
                        have e2 : (cand k l).data = ⟨#[]⟩ := by unfold cand; simp only; rw [if_neg h5]
                        unfold cand3
                        rw [← e2]
                        rfl
                      rw [e]; exact HA7.out)
                    clear h3
                    go_wp2
                    go_meet
                    exact ⟨rfl, HB7, HC⟩
                case rest =>
                  obtain ⟨rfl, HB8, HA8⟩ := hcut
                  obtain ⟨C, hC⟩ : ∃ C, cand k l = C := ⟨_, rfl⟩
                  have HNx := Lib.hid (show ¬ IsLine C s → NoC l s (k + 1) from fun h => HNo.out.next (by rw [hC]; exact h))
                  have CP := rprint_any C (by rw [← hC]; exact cand_small HP.out hs (by rw [HN.out]; exact hn2) (by rw [HN.out]; exact hn4) k) wc
                  rw [hC] at HA8
                  obtain ⟨q0, q1, q2, q3, q4⟩ := HA8.out.cells
                  unfold cmdV at CP
                  clear hC HB7 HA7 HDt
                  go_wp2_with fail
                  refine CP.mono ?_
                  rintro e w9 ⟨hpe, hB9⟩
                  obtain ⟨x, m, rfl⟩ : ∃ x m, e = .returned (.tuple #[.string x, .int .i64 m]) := by
                    rcases hpe with ⟨_, _, _, _, rfl⟩ | ⟨_, rfl⟩
                    · exact ⟨_, _, rfl⟩
                    · exact ⟨_, _, rfl⟩
                  have HL := Lib.hid (print_line (s := s) hpe)
                  have hA9 := HA8.out.later hB9
                  have HB9 := Lib.hid (HB8.out.trans (hB9.mono HB8.out.size))
                  have HBw := Lib.hid (HB.out.trans (HB9.out.mono hszr))
                  clear q0 q1 q2 q3 q4 hpe hB9 CP
                  obtain ⟨q0, q1, q2, q3, q4⟩ := hA9.cells
                  clear hA9
                  by_cases hm : m = 0
                  · subst hm
                    by_cases hxs : x = s
                    · have HE := Lib.hid (HL.out.1 ⟨rfl, hxs⟩)
                      have b1 : (x.toList == s.toList) = true := by rw [hxs]; exact beq_iff_eq.2 rfl
                      have HAr := HA2.out.later HBw.out
                      obtain ⟨y1, y2, y3, y4, y5, ⟨e1, e2, e3, e4, e5⟩, ⟨c1, c2, c3, c4, c5⟩, ⟨f1, f2, f3, f4, f5⟩, ha6, hs6⟩ := cmd_store C HAr
                      have HBx := HB2.out.trans (HBw.out.mono HB2.out.size)
                      have HB6 := Lib.hid (HBx.trans (hs6.below (B := w.heap.size) (fun i hi => by subst hi; exact Nat.le_refl _) HBx.size))
                      obtain ⟨r1, r2, r3, r4, r5⟩ := ha6.cells
                      unfold zeroC at c1 c2 c3 c4 c5
                      simp only at c1 c2 c3 c4 c5
                      clear ha6 hs6 HAr HBx hxs
                      go_wp2
                      refine bodyPost_ret ?_ rfl ⟨.inl ⟨C, HE.out, rfl⟩, HB6.out⟩
                      rw [results_cell_tmp rfl]
                      go_simp
                      try rfl
                    · have b1 := (texts_ne2 hxs).1
                      have HN1 := Lib.hid (HNx.out (fun h => hxs (HL.out.2 h).2))
                      clear hxs
                      go_wp2
                      go_roundw
                      case rel => exact ⟨k + 1, hlt, by go_num, HN1, HBw⟩
                      case measure => simp [intOf]; omega
                  · have b1 : (m == 0) = false := beq_eq_false_iff_ne.2 hm
                    have HN1 := Lib.hid (HNx.out (fun h => hm (HL.out.2 h).1))
                    clear hm
                    go_wp2
                    go_roundw
                    case rel => exact ⟨k + 1, hlt, by go_num, HN1, HBw⟩
                    case measure => simp [intOf]; omega
    · have HE := Lib.hid (show ∀ d, ¬ IsLine d s from fun d => by
        by_cases h9 : k = 9
        · subst h9; exact HNo.out.none HP.out d
        · exact few_none HP.out (by rw [HN.out]; omega) d)
      have HAr := HA2.out.later HB.out
      obtain ⟨x1, x2, x3, x4, x5, ⟨e1, e2, e3, e4, e5⟩, ⟨c1, c2, c3, c4, c5⟩, ⟨f1, f2, f3, f4, f5⟩, ha6, hs6⟩ := cmd_store zeroC HAr
      have HBw := HB2.out.trans (HB.out.mono HB2.out.size)
      have HB6 := Lib.hid (HBw.trans (hs6.below (B := w.heap.size) (fun i hi => by subst hi; exact Nat.le_refl _) HBw.size))
      obtain ⟨q1, q2, q3, q4, q5⟩ := ha6.cells
      unfold zeroC at c1 c2 c3 c4 c5 e1 e2 e3 e4 e5 q1 q2 q3 q4 q5
      simp only at c1 c2 c3 c4 c5 e1 e2 e3 e4 e5 q1 q2 q3 q4 q5
      clear ha6 hs6 HAr HBw
      have fin3 : ((k : Int) < 9 → (2 : Int) ≤ (n : Int) → ¬ (n : Int) ≤ 4) := by omega
      by_cases g1 : (k : Int) < 9
      · by_cases g2 : (2 : Int) ≤ (n : Int)
        · have g3 := fin3 g1 g2
          clear fin3 hgo
          go_wp2
          refine bodyPost_ret ?_ rfl ⟨.inr ⟨HE.out, rfl⟩, HB6.out⟩
          rw [results_cell_tmp rfl]
          go_simp
          try rfl
        · clear fin3 hgo
          go_wp2
          refine bodyPost_ret ?_ rfl ⟨.inr ⟨HE.out, rfl⟩, HB6.out⟩
          rw [results_cell_tmp rfl]
          go_simp
          try rfl
      · clear fin3 hgo
        go_wp2
        refine bodyPost_ret ?_ rfl ⟨.inr ⟨HE.out, rfl⟩, HB6.out⟩
        rw [results_cell_tmp rfl]
        go_simp
        try rfl
end Go.Proofs.YtmloljjllmmkoaaDoor

