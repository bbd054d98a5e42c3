/-
  Layer 13: texts cut at a byte, paths, numbers and bytes as words, commands and their lines: on values, with no program in it.
-/
import Derived.Test.YtmloljjllmmkoaaDoorTabMath
import Derived.Lib.ItoaMem
import Derived.Lib.AtoiAll
import Derived.Lib.AtoiAllCases
namespace Go.Proofs.YtmloljjllmmkoaaDoor
open Go.RowKit Go

theorem ba_ext {p q : ByteArray} (h : p.data.toList = q.data.toList) : p = q := by
  rw [← bs_self p, ← bs_self q, h]

/-! ### Texts cut at a byte -/
def joinB (c : UInt8) : List ByteArray → List UInt8
  | [] => []
  | [p] => p.data.toList
  | p :: q :: r => p.data.toList ++ c :: joinB c (q :: r)
theorem joinB_cons {c : UInt8} {p : ByteArray} {l : List ByteArray} (h : l ≠ []) : joinB c (p :: l) = p.data.toList ++ c :: joinB c l := by
  cases l with
  | nil => exact absurd rfl h
  | cons q r => rfl
theorem joinB_snoc {c : UInt8} {p : ByteArray} : ∀ {l : List ByteArray}, l ≠ [] → joinB c (l ++ [p]) = joinB c l ++ c :: p.data.toList
  | [], h => absurd rfl h
  | [q], _ => rfl
  | q :: q1 :: r, _ => by
    have ih := joinB_snoc (c := c) (p := p) (l := q1 :: r) (by simp)
    show q.data.toList ++ c :: joinB c ((q1 :: r) ++ [p]) = (q.data.toList ++ c :: joinB c (q1 :: r)) ++ c :: p.data.toList
    rw [ih]
    simp
def NoB (c : UInt8) (p : ByteArray) : Prop := c ∉ p.data.toList
/-- what a text is cut into at a byte -/
def Parts (c : UInt8) (s : ByteArray) (ps : List ByteArray) : Prop := ps ≠ [] ∧ (∀ p ∈ ps, NoB c p) ∧ joinB c ps = s.data.toList
/-- the same, of at most so many parts, the last one with all that is left -/
def CutN (c : UInt8) (n : Nat) (s : ByteArray) (ps : List ByteArray) : Prop :=
  ps ≠ [] ∧ ps.length ≤ n ∧ joinB c ps = s.data.toList ∧ (∀ p ∈ ps.dropLast, NoB c p) ∧ (ps.length < n → ∀ p ∈ ps, NoB c p)
theorem first_inj {c : UInt8} : ∀ {a b x y : List UInt8}, c ∉ a → c ∉ b → a ++ c :: x = b ++ c :: y → a = b ∧ x = y
  | [], [], x, y, _, _, h => by simpa using h
  | [], d :: b, x, y, _, hb, h => by
    simp only [List.nil_append, List.cons_append, List.cons.injEq] at h
    exact absurd (by rw [h.1]; simp) hb
  | d :: a, [], x, y, ha, _, h => by
    simp only [List.nil_append, List.cons_append, List.cons.injEq] at h
    exact absurd (by rw [h.1]; simp) ha
  | d :: a, e :: b, x, y, ha, hb, h => by
    simp only [List.cons_append, List.cons.injEq] at h
    obtain ⟨rfl, h⟩ := h
    obtain ⟨rfl, r⟩ := first_inj (fun k => ha (List.mem_cons_of_mem _ k)) (fun k => hb (List.mem_cons_of_mem _ k)) h
    exact ⟨rfl, r⟩
theorem joinB_inj {c : UInt8} : ∀ {ps qs : List ByteArray}, ps ≠ [] → qs ≠ [] → (∀ p ∈ ps, NoB c p) → (∀ q ∈ qs, NoB c q) → joinB c ps = joinB c qs → ps = qs
  | [], _, h, _, _, _, _ => absurd rfl h
  | _, [], _, h, _, _, _ => absurd rfl h
  | [p], [q], _, _, _, _, h => by rw [ba_ext h]
  | [p], q :: q1 :: r, _, _, hp, _, h => by
    have h : p.data.toList = q.data.toList ++ c :: joinB c (q1 :: r) := h
    exact absurd (show c ∈ p.data.toList by rw [h]; simp) (hp p (by simp))
  | p :: p1 :: r, [q], _, _, _, hq, h => by
    have h : p.data.toList ++ c :: joinB c (p1 :: r) = q.data.toList := h
    exact absurd (show c ∈ q.data.toList by rw [← h]; simp) (hq q (by simp))
  | p :: p1 :: r, q :: q1 :: t, _, _, hp, hq, h => by
    have h : p.data.toList ++ c :: joinB c (p1 :: r) = q.data.toList ++ c :: joinB c (q1 :: t) := h
    obtain ⟨e1, e2⟩ := first_inj (hp p (by simp)) (hq q (by simp)) h
    rw [ba_ext e1, joinB_inj (by simp) (by simp) (fun x hx => hp x (List.mem_cons_of_mem _ hx)) (fun x hx => hq x (List.mem_cons_of_mem _ hx)) e2]
theorem Parts.uniq {c : UInt8} {s : ByteArray} {ps qs : List ByteArray} (h : Parts c s ps) (k : Parts c s qs) : ps = qs :=
  joinB_inj h.1 k.1 h.2.1 k.2.1 (h.2.2.trans k.2.2.symm)
theorem CutN.short {c : UInt8} {n : Nat} {s : ByteArray} {ps : List ByteArray} (h : CutN c n s ps) (hl : ps.length < n) : Parts c s ps := ⟨h.1, h.2.2.2.2 hl, h.2.2.1⟩
theorem cut_len {c : UInt8} : ∀ {ps qs : List ByteArray}, qs ≠ [] → (∀ p ∈ ps.dropLast, NoB c p) → (∀ q ∈ qs, NoB c q) → joinB c ps = joinB c qs → ps.length ≤ qs.length
  | [], _, _, _, _, _ => Nat.zero_le _
  | _, [], h, _, _, _ => absurd rfl h
  | [p], q :: r, _, _, _, _ => by simp
  | p :: p1 :: r, [q], _, _, hq, h => by
    have h : p.data.toList ++ c :: joinB c (p1 :: r) = q.data.toList := h
    exact absurd (show c ∈ q.data.toList by rw [← h]; simp) (hq q (by simp))
  | p :: p1 :: r, q :: q1 :: t, _, hp, hq, h => by
    have h : p.data.toList ++ c :: joinB c (p1 :: r) = q.data.toList ++ c :: joinB c (q1 :: t) := h
    obtain ⟨_, e2⟩ := first_inj (hp p (by simp)) (hq q (by simp)) h
    have := cut_len (ps := p1 :: r) (qs := q1 :: t) (by simp) (fun x hx => hp x (by rw [List.dropLast_cons_of_ne_nil (by simp)]; exact List.mem_cons_of_mem _ hx)) (fun x hx => hq x (List.mem_cons_of_mem _ hx)) e2
    simpa using this
theorem CutN.long {c : UInt8} {n : Nat} {s : ByteArray} {ps qs : List ByteArray} (h : CutN c n s ps) (k : Parts c s qs) : ps.length ≤ qs.length :=
  cut_len k.1 h.2.2.2.1 k.2.1 (h.2.2.1.trans k.2.2.symm)
theorem CutN.parts {c : UInt8} {n : Nat} {s : ByteArray} {ps qs : List ByteArray} (h : CutN c n s ps) (k : Parts c s qs) (hq : qs.length < n) : ps = qs :=
  (h.short (Nat.lt_of_le_of_lt (h.long k) hq)).uniq k
theorem joinB_len (c : UInt8) : ∀ (ps : List ByteArray), ps.length ≤ (joinB c ps).length + 1
  | [] => Nat.zero_le _
  | [p] => by simp
  | p :: q :: r => by
    have := joinB_len c (q :: r)
    show _ ≤ (p.data.toList ++ c :: joinB c (q :: r)).length + 1
    simp only [List.length_append, List.length_cons] at *
    omega
theorem joinB_len_snoc (c : UInt8) (p : ByteArray) (l : List ByteArray) : l.length + p.size ≤ (joinB c (l ++ [p])).length := by
  have hs : p.data.toList.length = p.size := Array.length_toList (xs := p.data)
  by_cases h : l = []
  · subst h
    show 0 + p.size ≤ p.data.toList.length
    omega
  · rw [joinB_snoc h]
    have := joinB_len c l
    simp only [List.length_append, List.length_cons]
    omega

/-! ### Paths -/
def IsPath (s : ByteArray) (l : List ByteArray) : Prop :=
  (∀ n ∈ l, NameOk n) ∧ l.length ≤ 8 ∧ ((l = [] ∧ s.data.toList = [47]) ∨ (l ≠ [] ∧ s.data.toList = 47 :: joinB 47 l))
def PathOk (s : ByteArray) : Prop := ∃ l, IsPath s l
theorem nameByte_not {c : UInt8} (h : nameByte c = true) : c ≠ 47 ∧ c ≠ 32 := by
  refine ⟨?_, ?_⟩ <;> (rintro rfl; revert h; decide)
theorem NameOk.noB {s : ByteArray} (h : NameOk s) : NoB 47 s ∧ NoB 32 s :=
  ⟨fun k => (nameByte_not (h.2.2.1 _ k)).1 rfl, fun k => (nameByte_not (h.2.2.1 _ k)).2 rfl⟩
theorem IsPath.parts {s r : ByteArray} {l : List ByteArray} (h : IsPath s l) (hl : l ≠ []) (hr : s.data.toList = 47 :: r.data.toList) : Parts 47 r l := by
  refine ⟨hl, fun p hp => (h.1 p hp).noB.1, ?_⟩
  rcases h.2.2 with ⟨h1, _⟩ | ⟨_, h2⟩
  · exact absurd h1 hl
  · rw [h2] at hr
    exact (List.cons.inj hr).2
theorem joinB_ne {l : List ByteArray} (hl : l ≠ []) (h : ∀ n ∈ l, NameOk n) : joinB 47 l ≠ [] := by
  cases l with
  | nil => exact absurd rfl hl
  | cons p r =>
    have h1 := (h p (by simp)).1
    have hs : p.data.toList.length = p.size := Array.length_toList (xs := p.data)
    have hp : p.data.toList ≠ [] := fun e => by rw [e] at hs; simp at hs; omega
    cases r with
    | nil => exact hp
    | cons q t =>
      show p.data.toList ++ _ ≠ []
      simp
theorem IsPath.uniq {s : ByteArray} {l m : List ByteArray} (h : IsPath s l) (k : IsPath s m) : l = m := by
  rcases h.2.2 with ⟨rfl, h1⟩ | ⟨h0, h1⟩
  · rcases k.2.2 with ⟨rfl, k1⟩ | ⟨k0, k1⟩
    · rfl
    · rw [h1] at k1
      exact absurd (List.cons.inj k1).2.symm (joinB_ne k0 k.1)
  · rcases k.2.2 with ⟨rfl, k1⟩ | ⟨k0, k1⟩
    · rw [k1] at h1
      exact absurd (List.cons.inj h1).2.symm (joinB_ne h0 h.1)
    · exact joinB_inj h0 k0 (fun p hp => (h.1 p hp).noB.1) (fun p hp => (k.1 p hp).noB.1) (List.cons.inj (h1.symm.trans k1)).2
theorem IsPath.root : IsPath ⟨#[47]⟩ [] := ⟨by simp, by simp, .inl ⟨rfl, rfl⟩⟩
theorem IsPath.some {s r : ByteArray} {l : List ByteArray} (hr : s.data.toList = 47 :: r.data.toList) (hp : Parts 47 r l) (hn : ∀ n ∈ l, NameOk n) (h8 : l.length ≤ 8) : IsPath s l :=
  ⟨hn, h8, .inr ⟨hp.1, by rw [hr, hp.2.2]⟩⟩
theorem joinB_mem {c d : UInt8} (hd : d ≠ c) : ∀ {l : List ByteArray}, d ∈ joinB c l → ∃ p ∈ l, d ∈ p.data.toList
  | [], h => by simp [joinB] at h
  | [p], h => ⟨p, by simp, h⟩
  | p :: q :: r, h => by
    have h : d ∈ p.data.toList ++ c :: joinB c (q :: r) := h
    rcases List.mem_append.1 h with h | h
    · exact ⟨p, by simp, h⟩
    · rcases List.mem_cons.1 h with h | h
      · exact absurd h hd
      · obtain ⟨x, hx, hd⟩ := joinB_mem hd h
        exact ⟨x, List.mem_cons_of_mem _ hx, hd⟩
theorem IsPath.noB {s : ByteArray} {l : List ByteArray} (h : IsPath s l) : NoB 32 s := by
  intro hm
  rcases h.2.2 with ⟨_, e⟩ | ⟨_, e⟩
  · rw [e] at hm
    revert hm; decide
  · rw [e] at hm
    rcases List.mem_cons.1 hm with hm | hm
    · revert hm; decide
    · obtain ⟨p, hp, hd⟩ := joinB_mem (by decide) hm
      exact (h.1 p hp).noB.2 hd

/-! ### Numbers -/
theorem dec_step {u : Nat} (h : ¬ u < 10) : Lib.decDigits u = Lib.decDigits (u / 10) ++ [UInt8.ofNat (48 + u % 10)] := by
  rw [Lib.decDigits, dif_neg h]
theorem parse_snoc (c : UInt8) : ∀ (l : List UInt8) (acc a : Nat), Lib.parseUint10 acc l = .ok a → Lib.parseUint10 acc (l ++ [c]) = Lib.parseUint10 a [c]
  | [], acc, a, h => by
    obtain rfl : acc = a := by simpa [Lib.parseUint10] using h
    rfl
  | d :: l, acc, a, h => by
    have ih := fun b g => parse_snoc c l b a g
    generalize Lib.parseUint10 a [c] = R at ih ⊢
    simp only [List.cons_append, Lib.parseUint10] at h ⊢
    split at h
    · rename_i h1
      rw [if_pos h1]
      split at h
      · cases h
      · rename_i h2
        rw [if_neg h2]
        split at h
        · cases h
        · rename_i h3
          rw [if_neg h3]
          exact ih _ h
    · cases h
theorem dig_nat {d : Nat} (h : d < 10) : (UInt8.ofNat (48 + d)).toNat = 48 + d := by simp; omega
theorem parse_dec : ∀ (n u : Nat), u < n → u < 1000000 → Lib.parseUint10 0 (Lib.decDigits u) = .ok u
  | 0, u, h, _ => absurd h (by omega)
  | n + 1, u, h, hb => by
    by_cases h10 : u < 10
    · rw [Lib.decDigits_one h10]
      simp only [Lib.parseUint10, dig_nat h10]
      rw [if_pos (by omega), if_neg (by omega), if_neg (by omega)]
      congr 1; omega
    · rw [dec_step h10, parse_snoc _ _ _ _ (parse_dec n (u / 10) (by omega) (by omega))]
      have hd : u % 10 < 10 := by omega
      simp only [Lib.parseUint10, dig_nat hd]
      rw [if_pos (by omega), if_neg (by omega), if_neg (by omega)]
      congr 1; omega
theorem dec_ne (u : Nat) : Lib.decDigits u ≠ [] := by
  intro h
  have := Lib.nDigits_pos u
  rw [← Lib.decDigits_length, h] at this
  simp at this
theorem dec_all : ∀ (n u : Nat), u < n → ∀ c ∈ Lib.decDigits u, 48 ≤ c.toNat ∧ c.toNat ≤ 57
  | 0, u, h, _, _ => absurd h (by omega)
  | n + 1, u, h, c, hc => by
    by_cases h10 : u < 10
    · rw [Lib.decDigits_one h10] at hc
      rw [List.mem_singleton.1 hc, dig_nat h10]; omega
    · rw [dec_step h10] at hc
      rcases List.mem_append.1 hc with hc | hc
      · exact dec_all n (u / 10) (by omega) c hc
      · rw [List.mem_singleton.1 hc, dig_nat (by omega)]; omega
theorem atoi_itoa (n : Int) (h0 : 0 ≤ n) (h1 : n < 1000000) : Lib.atoiAll (Lib.itoa n) = .ok n := by
  obtain ⟨u, rfl⟩ : ∃ u : Nat, n = u := ⟨n.toNat, by omega⟩
  rw [Lib.itoa_nonneg]
  have hp := parse_dec (u + 1) u (by omega) (by omega)
  have hd := dec_all (u + 1) u (by omega)
  have hn := dec_ne u
  generalize Lib.decDigits u = l at *
  cases l with
  | nil => exact absurd rfl hn
  | cons c r =>
    have hc := hd c (by simp)
    unfold Lib.atoiAll
    simp only
    have e1 : ¬ c.toNat = 45 := by omega
    have e2 : ¬ (c.toNat = 43 ∨ c.toNat = 45) := by omega
    rw [if_neg e2]
    unfold Lib.parseMag
    rw [if_neg (by simp), hp]
    simp only
    rw [if_neg (by omega), if_neg (by omega), if_neg e1]
/-- a place, and its word -/
def AtW (n : Int) (w : ByteArray) : Prop := 0 ≤ n ∧ n ≤ 16384 ∧ Lib.itoa n = w.data.toList
theorem AtW.uniq {n m : Int} {w : ByteArray} (h : AtW n w) (k : AtW m w) : n = m := by
  have e1 := atoi_itoa n h.1 (by have := h.2.1; omega)
  have e2 := atoi_itoa m k.1 (by have := k.2.1; omega)
  rw [h.2.2, ← k.2.2, e2] at e1
  exact (Lib.NumEnd.ok.inj e1).symm
theorem AtW.atoi {n : Int} {w : ByteArray} (h : AtW n w) : Lib.atoiAll w.data.toList = .ok n := by
  rw [← h.2.2]; exact atoi_itoa n h.1 (by have := h.2.1; omega)
theorem itoa_noB {n : Int} (h : 0 ≤ n) : NoB 32 (bs (Lib.itoa n)) := by
  obtain ⟨u, rfl⟩ : ∃ u : Nat, n = u := ⟨n.toNat, by omega⟩
  intro hm
  rw [bs_list, Lib.itoa_nonneg] at hm
  have := dec_all (u + 1) u (by omega) _ hm
  revert this; decide
/-- what the reference makes of the digits of a word: the first six bytes -/
def atV (l : List UInt8) : Int := l.foldl (fun a c => 10 * a + ((c.toNat : Int) - 48)) 0
theorem atV_snoc (l : List UInt8) (c : UInt8) : atV (l ++ [c]) = 10 * atV l + ((c.toNat : Int) - 48) := by simp [atV]
theorem atV_dec : ∀ (n u : Nat), u < n → atV (Lib.decDigits u) = u
  | 0, u, h => absurd h (by omega)
  | n + 1, u, h => by
    by_cases h10 : u < 10
    · rw [Lib.decDigits_one h10]
      have e := dig_nat h10
      simp only [atV, List.foldl_cons, List.foldl_nil, e]
      omega
    · rw [dec_step h10, atV_snoc, atV_dec n (u / 10) (by omega), dig_nat (by omega)]
      omega
theorem dec_len {u : Nat} (h : u < 1000000) : (Lib.decDigits u).length ≤ 6 := by
  rw [Lib.decDigits_length]
  refine Nat.le_of_not_lt fun k => ?_
  have := Lib.lt_pow_nDigits u
  have h2 : ∀ (j v : Nat), v < 10 ^ j → Lib.nDigits v ≤ max j 1 := by
    intro j
    induction j with
    | zero => intro v hv; rw [Lib.nDigits_small (by simp at hv; omega)]; simp
    | succ j ih =>
      intro v hv
      by_cases h10 : v < 10
      · rw [Lib.nDigits_small h10]; simp
      · rw [Lib.nDigits_big h10]
        have := ih (v / 10) (by rw [Nat.pow_succ] at hv; omega)
        have hj : 1 ≤ j := by
          rcases Nat.eq_zero_or_pos j with rfl | h
          · simp at hv; omega
          · exact h
        omega
  have := h2 6 u (by omega)
  omega
theorem AtW.val {n : Int} {w : ByteArray} (h : AtW n w) : atV (w.data.toList.take 6) = n := by
  obtain ⟨h0, h1, h2⟩ := h
  obtain ⟨u, rfl⟩ : ∃ u : Nat, n = u := ⟨n.toNat, by omega⟩
  rw [← h2, Lib.itoa_nonneg, List.take_of_length_le (dec_len (by omega)), atV_dec (u + 1) u (by omega)]

/-! ### Bytes in digits of base sixteen -/
def hexD (n : Nat) : UInt8 := if n < 10 then UInt8.ofNat (48 + n) else UInt8.ofNat (87 + n)
def hexB (b : UInt8) : List UInt8 := [hexD (b.toNat / 16), hexD (b.toNat % 16)]
def hexW (l : List UInt8) : List UInt8 := if l = [] then [45] else l.flatMap hexB
def hexV (c : UInt8) : Int := if 97 ≤ c.toNat then (c.toNat : Int) - 97 + 10 else (c.toNat : Int) - 48
theorem hexV_D {n : Nat} (h : n < 16) : hexV (hexD n) = n := by
  have : ∀ k : Fin 16, hexV (hexD k.val) = (k.val : Int) := by decide +kernel
  exact this ⟨n, h⟩
theorem hexD_is {n : Nat} (h : n < 16) : hexD n ≠ 32 ∧ hexD n ≠ 45 := by
  have : ∀ k : Fin 16, hexD k.val ≠ 32 ∧ hexD k.val ≠ 45 := by decide +kernel
  exact this ⟨n, h⟩
theorem byte_16 (b : UInt8) : b.toNat / 16 < 16 ∧ b.toNat % 16 < 16 := by have := b.toNat_lt; omega
/-- the byte of two digits -/
def unB (x y : UInt8) : UInt8 := UInt8.ofInt (16 * hexV x + hexV y)
theorem unB_hex (b : UInt8) : unB (hexD (b.toNat / 16)) (hexD (b.toNat % 16)) = b := by
  unfold unB
  rw [hexV_D (byte_16 b).1, hexV_D (byte_16 b).2]
  have : (16 * ((b.toNat / 16 : Nat) : Int) + ((b.toNat % 16 : Nat) : Int)) = (b.toNat : Int) := by omega
  rw [this]
  have h2 : ∀ k : Fin 256, UInt8.ofInt (k.val : Int) = UInt8.ofNat k.val := by decide +kernel
  rw [h2 ⟨b.toNat, b.toNat_lt⟩]
  simp
def unhex : List UInt8 → List UInt8
  | x :: y :: r => unB x y :: unhex r
  | _ => []
theorem unhex_hex : ∀ (l : List UInt8), unhex (l.flatMap hexB) = l
  | [] => rfl
  | b :: l => by
    show unhex (hexD (b.toNat / 16) :: hexD (b.toNat % 16) :: l.flatMap hexB) = _
    rw [unhex, unB_hex, unhex_hex l]
theorem flat_hex_len (l : List UInt8) : (l.flatMap hexB).length = 2 * l.length := by
  induction l with
  | nil => rfl
  | cons b l ih => simp [hexB, ih] at *; omega
theorem flat_hex_ne {l : List UInt8} (_ : l ≠ []) : l.flatMap hexB ≠ [45] := by
  intro e
  have := flat_hex_len l
  rw [e] at this
  simp at this
  omega
theorem hexW_inj {a b : List UInt8} (h : hexW a = hexW b) : a = b := by
  unfold hexW at h
  split at h
  · split at h
    · simp [*]
    · exact absurd h.symm (flat_hex_ne (by assumption))
  · split at h
    · exact absurd h (flat_hex_ne (by assumption))
    · rw [← unhex_hex a, h, unhex_hex]
theorem hexW_noB (l : List UInt8) : NoB 32 (bs (hexW l)) := by
  intro hm
  rw [bs_list] at hm
  unfold hexW at hm
  split at hm
  · revert hm; decide
  · obtain ⟨b, _, hb⟩ := List.mem_flatMap.1 hm
    have h := byte_16 b
    simp only [hexB, List.mem_cons, List.not_mem_nil, or_false] at hb
    rcases hb with hb | hb
    · exact (hexD_is h.1).1 hb.symm
    · exact (hexD_is h.2).1 hb.symm
/-- bytes, and their word -/
def DatW (d w : ByteArray) : Prop := d.size ≤ 512 ∧ hexW d.data.toList = w.data.toList
theorem DatW.uniq {d e w : ByteArray} (h : DatW d w) (k : DatW e w) : d = e := ba_ext (hexW_inj (h.2.trans k.2.symm))

/-! ### Commands -/
structure Cmd where
  kind : Int
  path : ByteArray
  dest : ByteArray
  place : Int
  data : ByteArray
inductive Fld | path | name | dest | place | data
def fldN : Fld → Int
  | .path => 0 | .name => 1 | .dest => 2 | .place => 3 | .data => 4
def wordK : Nat → ByteArray
  | 0 => ⟨#[109, 97, 107, 101]⟩
  | 1 => ⟨#[100, 105, 114]⟩
  | 2 => ⟨#[119, 114, 105, 116, 101]⟩
  | 3 => ⟨#[99, 117, 116]⟩
  | 4 => ⟨#[108, 105, 110, 107]⟩
  | 5 => ⟨#[114, 101, 110, 97, 109, 101]⟩
  | 6 => ⟨#[114, 101, 109, 111, 118, 101]⟩
  | 7 => ⟨#[115, 110, 97, 112]⟩
  | _ => ⟨#[117, 110, 115, 110, 97, 112]⟩
def fldK : Nat → List Fld
  | 0 => [.path] | 1 => [.path] | 2 => [.path, .place, .data] | 3 => [.path, .place] | 4 => [.path, .dest] | 5 => [.path, .dest] | 6 => [.path] | _ => [.name]
def fldLay (c : Cmd) : Fld → ByteArray
  | .path => c.path | .name => c.path | .dest => c.dest | .place => bs (Lib.itoa c.place) | .data => bs (hexW c.data.data.toList)
def wordsC (k : Nat) (c : Cmd) : List ByteArray := wordK k :: (fldK k).map (fldLay c)
/-- may a command be one of kind k? -/
def MayK (c : Cmd) : Nat → Prop
  | 0 => PathOk c.path ∧ c.dest = ⟨#[]⟩ ∧ c.place = 0 ∧ c.data = ⟨#[]⟩
  | 1 => PathOk c.path ∧ c.dest = ⟨#[]⟩ ∧ c.place = 0 ∧ c.data = ⟨#[]⟩
  | 2 => PathOk c.path ∧ c.dest = ⟨#[]⟩ ∧ (0 ≤ c.place ∧ c.place ≤ 16384) ∧ c.data.size ≤ 512
  | 3 => PathOk c.path ∧ c.dest = ⟨#[]⟩ ∧ (0 ≤ c.place ∧ c.place ≤ 16384) ∧ c.data = ⟨#[]⟩
  | 4 => PathOk c.path ∧ PathOk c.dest ∧ c.place = 0 ∧ c.data = ⟨#[]⟩
  | 5 => PathOk c.path ∧ PathOk c.dest ∧ c.place = 0 ∧ c.data = ⟨#[]⟩
  | 6 => PathOk c.path ∧ c.dest = ⟨#[]⟩ ∧ c.place = 0 ∧ c.data = ⟨#[]⟩
  | _ => NameOk c.path ∧ c.dest = ⟨#[]⟩ ∧ c.place = 0 ∧ c.data = ⟨#[]⟩
def MayC (c : Cmd) : Prop := ∃ k : Nat, k < 9 ∧ c.kind = k ∧ MayK c k
def lineK (k : Nat) (c : Cmd) : List UInt8 := joinB 32 (wordsC k c)
/-- a command's line -/
def IsLine (c : Cmd) (s : ByteArray) : Prop := ∃ k : Nat, k < 9 ∧ c.kind = k ∧ MayK c k ∧ lineK k c = s.data.toList
theorem below9 {k : Nat} (h : k < 9) : k = 0 ∨ k = 1 ∨ k = 2 ∨ k = 3 ∨ k = 4 ∨ k = 5 ∨ k = 6 ∨ k = 7 ∨ k = 8 := by omega
theorem wordK_noB {k : Nat} (hk : k < 9) : NoB 32 (wordK k) := by
  rcases below9 hk with rfl | rfl | rfl | rfl | rfl | rfl | rfl | rfl | rfl <;> (unfold NoB wordK; decide)
theorem wordK_inj {j k : Nat} (hj : j < 9) (hk : k < 9) (h : wordK j = wordK k) : j = k := by
  have : ∀ a b : Fin 9, (wordK a.val).data.toList = (wordK b.val).data.toList → a = b := by decide +kernel
  have := this ⟨j, hj⟩ ⟨k, hk⟩ (by simp only []; rw [h])
  exact congrArg Fin.val this
theorem words_noB {c : Cmd} {k : Nat} (hk : k < 9) (h : MayK c k) : ∀ p ∈ wordsC k c, NoB 32 p := by
  have hp : PathOk c.path → NoB 32 c.path := fun ⟨_, h⟩ => h.noB
  have ht : PathOk c.dest → NoB 32 c.dest := fun ⟨_, h⟩ => h.noB
  have hd : NoB 32 (bs (hexW c.data.data.toList)) := hexW_noB _
  have hw := wordK_noB hk
  rcases below9 hk with rfl | rfl | rfl | rfl | rfl | rfl | rfl | rfl | rfl <;>
    simp only [wordsC, fldK, List.map_cons, List.map_nil, fldLay, List.mem_cons, List.not_mem_nil, or_false, forall_eq_or_imp, forall_eq, MayK] at h ⊢ <;>
    first
    | exact ⟨hw, hp h.1⟩
    | exact ⟨hw, hp h.1, itoa_noB h.2.2.1.1, hd⟩
    | exact ⟨hw, hp h.1, itoa_noB h.2.2.1.1⟩
    | exact ⟨hw, hp h.1, ht h.2.1⟩
    | exact ⟨hw, h.1.noB.2⟩
theorem IsLine.parts {c : Cmd} {s : ByteArray} {k : Nat} (hk : k < 9) (h : MayK c k) (hs : lineK k c = s.data.toList) : Parts 32 s (wordsC k c) :=
  ⟨by simp [wordsC], words_noB hk h, hs⟩
theorem cmd_ext {c d : Cmd} (h1 : c.kind = d.kind) (h2 : c.path = d.path) (h3 : c.dest = d.dest) (h4 : c.place = d.place) (h5 : c.data = d.data) : c = d := by
  cases c; cases d; simp_all
theorem itoa_inj {n m : Int} (h : 0 ≤ n ∧ n ≤ 16384) (k : 0 ≤ m ∧ m ≤ 16384) (e : bs (Lib.itoa n) = bs (Lib.itoa m)) : n = m :=
  AtW.uniq (w := bs (Lib.itoa n)) ⟨h.1, h.2, by rw [bs_list]⟩ ⟨k.1, k.2, by rw [e, bs_list]⟩
theorem bhex_inj {a b : ByteArray} (e : bs (hexW a.data.toList) = bs (hexW b.data.toList)) : a = b := by
  have h := congrArg (·.data.toList) e
  simp only [bs_list] at h
  exact ba_ext (hexW_inj h)
theorem mayK_inj {c d : Cmd} {k : Nat} (hk : k < 9) (hc : c.kind = k) (hd : d.kind = k) (h : MayK c k) (g : MayK d k) (e : wordsC k c = wordsC k d) : c = d := by
  rcases below9 hk with rfl | rfl | rfl | rfl | rfl | rfl | rfl | rfl | rfl <;>
    (simp only [wordsC, fldK, List.map_cons, List.map_nil, fldLay, List.cons.injEq, true_and, and_true, MayK] at h g e) <;>
    refine cmd_ext (hc.trans hd.symm) ?_ ?_ ?_ ?_ <;>
    first
    | exact e | exact e.1 | exact e.2
    | exact h.2.1.trans g.2.1.symm
    | exact h.2.2.1.trans g.2.2.1.symm
    | exact h.2.2.2.trans g.2.2.2.symm
    | exact itoa_inj h.2.2.1 g.2.2.1 e.2.1
    | exact itoa_inj h.2.2.1 g.2.2.1 e.2
    | exact bhex_inj e.2.2
theorem IsLine.uniq {c d : Cmd} {s : ByteArray} (h : IsLine c s) (g : IsLine d s) : c = d := by
  obtain ⟨k, hk, hc, hm, hl⟩ := h
  obtain ⟨j, hj, hd, gm, gl⟩ := g
  have e := (IsLine.parts hk hm hl).uniq (IsLine.parts hj gm gl)
  have ew := (List.cons.inj e).1
  obtain rfl := wordK_inj hk hj ew
  exact mayK_inj hk hc hd hm gm e

/-! ### Fields read one behind the other -/
def FldRd (w : ByteArray) (c : Cmd) : Fld → Cmd → Prop
  | .path, d => PathOk w ∧ d = { c with path := w }
  | .name, d => NameOk w ∧ d = { c with path := w }
  | .dest, d => PathOk w ∧ d = { c with dest := w }
  | .place, d => ∃ n, AtW n w ∧ d = { c with place := n }
  | .data, d => ∃ x, DatW x w ∧ d = { c with data := x }
def ReadsF : List Fld → List ByteArray → Cmd → Cmd → Prop
  | [], [], c, d => c = d
  | f :: fs, w :: ws, c, d => ∃ e, FldRd w c f e ∧ ReadsF fs ws e d
  | _, _, _, _ => False
def cmd0 (k : Nat) : Cmd := ⟨k, ⟨#[]⟩, ⟨#[]⟩, 0, ⟨#[]⟩⟩
theorem FldRd.uniq {w : ByteArray} {c d e : Cmd} {f : Fld} (h : FldRd w c f d) (g : FldRd w c f e) : d = e := by
  cases f with
  | path => exact h.2.trans g.2.symm
  | name => exact h.2.trans g.2.symm
  | dest => exact h.2.trans g.2.symm
  | place =>
    obtain ⟨n, hn, rfl⟩ := h
    obtain ⟨m, hm, rfl⟩ := g
    rw [hn.uniq hm]
  | data =>
    obtain ⟨n, hn, rfl⟩ := h
    obtain ⟨m, hm, rfl⟩ := g
    rw [hn.uniq hm]
theorem ReadsF.step {f : Fld} {fs : List Fld} {w : ByteArray} {ws : List ByteArray} {c e d : Cmd} (h : FldRd w c f e) : ReadsF (f :: fs) (w :: ws) c d ↔ ReadsF fs ws e d :=
  ⟨fun ⟨_, h1, h2⟩ => h.uniq h1 ▸ h2, fun k => ⟨e, h, k⟩⟩
theorem ReadsF.stop {f : Fld} {fs : List Fld} {w : ByteArray} {ws : List ByteArray} {c d : Cmd} (h : ∀ e, ¬ FldRd w c f e) : ¬ ReadsF (f :: fs) (w :: ws) c d :=
  fun ⟨e, h1, _⟩ => h e h1
theorem reads_len : ∀ {fs : List Fld} {ws : List ByteArray} {c d : Cmd}, ReadsF fs ws c d → ws.length = fs.length
  | [], [], _, _, _ => rfl
  | [], _ :: _, _, _, h => h.elim
  | _ :: _, [], _, _, h => h.elim
  | _ :: _, _ :: _, _, _, ⟨_, _, h⟩ => by simp [reads_len h]
theorem bs_of {a : List UInt8} {w : ByteArray} (h : a = w.data.toList) : bs a = w := by rw [h, bs_self]
theorem fldLay_len (k : Nat) (c : Cmd) : (wordsC k c).length = (fldK k).length + 1 := by simp [wordsC]
theorem reads_to {k : Nat} (hk : k < 9) {ws : List ByteArray} {d : Cmd} (h : ReadsF (fldK k) ws (cmd0 k) d) : d.kind = k ∧ MayK d k ∧ wordsC k d = wordK k :: ws := by
  have hl := reads_len h
  have one : ∀ {f : Fld} {c : Cmd}, ReadsF [f] ws c d → ∃ x, ws = [x] ∧ FldRd x c f d := by
    intro f c h
    match ws, h with
    | [x], ⟨e, h1, h2⟩ => exact ⟨x, rfl, by rw [← show e = d from h2]; exact h1⟩
  have two : ∀ {f g : Fld} {c : Cmd}, ReadsF [f, g] ws c d → ∃ x y e, ws = [x, y] ∧ FldRd x c f e ∧ FldRd y e g d := by
    intro f g c h
    match ws, h with
    | [x, y], ⟨e, h1, e2, h2, h3⟩ => exact ⟨x, y, e, rfl, h1, by rw [← show e2 = d from h3]; exact h2⟩
  have three : ∀ {f g i : Fld} {c : Cmd}, ReadsF [f, g, i] ws c d → ∃ x y z e e2, ws = [x, y, z] ∧ FldRd x c f e ∧ FldRd y e g e2 ∧ FldRd z e2 i d := by
    intro f g i c h
    match ws, h with
    | [x, y, z], ⟨e, h1, e2, h2, e3, h3, h4⟩ => exact ⟨x, y, z, e, e2, rfl, h1, h2, by rw [← show e3 = d from h4]; exact h3⟩
  clear hl
  rcases below9 hk with rfl | rfl | rfl | rfl | rfl | rfl | rfl | rfl | rfl
  · obtain ⟨x, rfl, h1, rfl⟩ := one h
    exact ⟨rfl, ⟨h1, rfl, rfl, rfl⟩, rfl⟩
  · obtain ⟨x, rfl, h1, rfl⟩ := one h
    exact ⟨rfl, ⟨h1, rfl, rfl, rfl⟩, rfl⟩
  · obtain ⟨x, y, z, e, e2, rfl, ⟨h1, rfl⟩, ⟨n, hn, rfl⟩, ⟨b, hb, rfl⟩⟩ := three h
    refine ⟨rfl, ⟨h1, rfl, ⟨hn.1, hn.2.1⟩, hb.1⟩, ?_⟩
    show [wordK 2, x, bs (Lib.itoa n), bs (hexW b.data.toList)] = _
    rw [bs_of hn.2.2, bs_of hb.2]
  · obtain ⟨x, y, e, rfl, ⟨h1, rfl⟩, ⟨n, hn, rfl⟩⟩ := two h
    refine ⟨rfl, ⟨h1, rfl, ⟨hn.1, hn.2.1⟩, rfl⟩, ?_⟩
    show [wordK 3, x, bs (Lib.itoa n)] = _
    rw [bs_of hn.2.2]
  · obtain ⟨x, y, e, rfl, ⟨h1, rfl⟩, ⟨h2, rfl⟩⟩ := two h
    exact ⟨rfl, ⟨h1, h2, rfl, rfl⟩, rfl⟩
  · obtain ⟨x, y, e, rfl, ⟨h1, rfl⟩, ⟨h2, rfl⟩⟩ := two h
    exact ⟨rfl, ⟨h1, h2, rfl, rfl⟩, rfl⟩
  · obtain ⟨x, rfl, h1, rfl⟩ := one h
    exact ⟨rfl, ⟨h1, rfl, rfl, rfl⟩, rfl⟩
  · obtain ⟨x, rfl, h1, rfl⟩ := one h
    exact ⟨rfl, ⟨h1, rfl, rfl, rfl⟩, rfl⟩
  · obtain ⟨x, rfl, h1, rfl⟩ := one h
    exact ⟨rfl, ⟨h1, rfl, rfl, rfl⟩, rfl⟩
theorem reads_from {k : Nat} (hk : k < 9) {d : Cmd} (hd : d.kind = k) (hm : MayK d k) : ReadsF (fldK k) ((fldK k).map (fldLay d)) (cmd0 k) d := by
  obtain ⟨kd, p, t, n, b⟩ := d
  simp only at hd
  subst hd
  rcases below9 hk with rfl | rfl | rfl | rfl | rfl | rfl | rfl | rfl | rfl <;> simp only [MayK] at hm
  · obtain ⟨h1, rfl, rfl, rfl⟩ := hm; exact ⟨_, ⟨h1, rfl⟩, rfl⟩
  · obtain ⟨h1, rfl, rfl, rfl⟩ := hm; exact ⟨_, ⟨h1, rfl⟩, rfl⟩
  · obtain ⟨h1, rfl, h2, h3⟩ := hm
    exact ⟨_, ⟨h1, rfl⟩, _, ⟨n, ⟨h2.1, h2.2, (bs_list _).symm⟩, rfl⟩, _, ⟨b, ⟨h3, (bs_list _).symm⟩, rfl⟩, rfl⟩
  · obtain ⟨h1, rfl, h2, rfl⟩ := hm
    exact ⟨_, ⟨h1, rfl⟩, _, ⟨n, ⟨h2.1, h2.2, (bs_list _).symm⟩, rfl⟩, rfl⟩
  · obtain ⟨h1, h2, rfl, rfl⟩ := hm; exact ⟨_, ⟨h1, rfl⟩, _, ⟨h2, rfl⟩, rfl⟩
  · obtain ⟨h1, h2, rfl, rfl⟩ := hm; exact ⟨_, ⟨h1, rfl⟩, _, ⟨h2, rfl⟩, rfl⟩
  · obtain ⟨h1, rfl, rfl, rfl⟩ := hm; exact ⟨_, ⟨h1, rfl⟩, rfl⟩
  · obtain ⟨h1, rfl, rfl, rfl⟩ := hm; exact ⟨_, ⟨h1, rfl⟩, rfl⟩
  · obtain ⟨h1, rfl, rfl, rfl⟩ := hm; exact ⟨_, ⟨h1, rfl⟩, rfl⟩
/-- the command of words is that of the line -/
theorem isLine_of_reads {k : Nat} (hk : k < 9) {s : ByteArray} {ws : List ByteArray} {d : Cmd} (hp : Parts 32 s (wordK k :: ws)) (h : ReadsF (fldK k) ws (cmd0 k) d) : IsLine d s := by
  obtain ⟨h1, h2, h3⟩ := reads_to hk h
  exact ⟨k, hk, h1, h2, by rw [lineK, h3]; exact hp.2.2⟩
theorem IsLine.words {s : ByteArray} {d : Cmd} (h : IsLine d s) : ∃ k : Nat, k < 9 ∧ d.kind = k ∧ MayK d k ∧ Parts 32 s (wordsC k d) := by
  obtain ⟨k, hk, h1, h2, h3⟩ := h
  exact ⟨k, hk, h1, h2, IsLine.parts hk h2 h3⟩
theorem fldK_len {k : Nat} (hk : k < 9) : 1 ≤ (fldK k).length ∧ (fldK k).length ≤ 3 := by
  rcases below9 hk with rfl | rfl | rfl | rfl | rfl | rfl | rfl | rfl | rfl <;> decide
/-- no command's, if no kind's words and fields are there -/
theorem no_line {s : ByteArray} {ps : List ByteArray} (hc : CutN 32 5 s ps) (h : ∀ k, k < 9 → ∀ d, ∀ ws, ps = wordK k :: ws → ¬ ReadsF (fldK k) ws (cmd0 k) d) (d : Cmd) : ¬ IsLine d s := by
  intro hl
  obtain ⟨k, hk, h1, h2, h3⟩ := hl.words
  have e := hc.parts h3 (by rw [fldLay_len]; have := (fldK_len hk).2; omega)
  exact h k hk d _ e (reads_from hk h1 h2)
theorem yes_line {s : ByteArray} {k : Nat} (hk : k < 9) {ws : List ByteArray} (hc : CutN 32 5 s (wordK k :: ws)) {d : Cmd} (h : ReadsF (fldK k) ws (cmd0 k) d) : IsLine d s := by
  have hl := reads_len h
  have := (fldK_len hk).2
  exact isLine_of_reads hk (hc.short (by simp; omega)) h
theorem no_read {s : ByteArray} {k : Nat} (hk : k < 9) {ws : List ByteArray} (hc : CutN 32 5 s (wordK k :: ws)) (h : ∀ d, ¬ ReadsF (fldK k) ws (cmd0 k) d) (d : Cmd) : ¬ IsLine d s :=
  no_line hc (fun j hj d ws' e => by
    obtain ⟨e1, rfl⟩ := List.cons.inj e
    obtain rfl := wordK_inj hk hj e1
    exact h d) d

/-! ### What the reference makes of words -/
def wordAt (l : List ByteArray) (i : Nat) : ByteArray := (l[i]?).getD (⟨#[]⟩ : ByteArray)
def cand (k : Nat) (l : List ByteArray) : Cmd :=
  ⟨k, wordAt l 1, if (k = 4 ∨ k = 5) ∧ l.length = 3 then wordAt l 2 else ⟨#[]⟩,
    if (k = 2 ∨ k = 3) ∧ 3 ≤ l.length then atV ((wordAt l 2).data.toList.take 6) else 0,
    if k = 2 ∧ l.length = 4 ∧ (wordAt l 3).data.toList ≠ [45] then bs (unhex (wordAt l 3).data.toList) else ⟨#[]⟩⟩
theorem unhex_word (b : ByteArray) : (if hexW b.data.toList ≠ [45] then bs (unhex (hexW b.data.toList)) else (⟨#[]⟩ : ByteArray)) = b := by
  by_cases h : b.data.toList = []
  · rw [if_neg (by simp [hexW, h])]
    exact ba_ext h.symm
  · have e : hexW b.data.toList = b.data.toList.flatMap hexB := by simp [hexW, h]
    rw [e, if_pos (flat_hex_ne h), unhex_hex, bs_self]
theorem cand_is {k : Nat} (hk : k < 9) {d : Cmd} (hd : d.kind = k) (hm : MayK d k) : cand k (wordsC k d) = d := by
  obtain ⟨kd, p, t, n, b⟩ := d
  simp only at hd
  subst hd
  have hat : 0 ≤ n ∧ n ≤ 16384 → atV ((Lib.itoa n).take 6) = n := fun h => by
    have := AtW.val (n := n) (w := bs (Lib.itoa n)) ⟨h.1, h.2, (bs_list _).symm⟩
    rwa [bs_list] at this
  have hb := unhex_word b
  rcases below9 hk with rfl | rfl | rfl | rfl | rfl | rfl | rfl | rfl | rfl <;> simp only [MayK] at hm <;>
    simp [cand, wordAt, wordsC, fldK, fldLay, bs_list]
  · exact ⟨hm.2.1.symm, hm.2.2.1.symm, hm.2.2.2.symm⟩
  · exact ⟨hm.2.1.symm, hm.2.2.1.symm, hm.2.2.2.symm⟩
  · exact ⟨hm.2.1.symm, hat hm.2.2.1, by simpa using hb⟩
  · exact ⟨hm.2.1.symm, hat hm.2.2.1, hm.2.2.2.symm⟩
  · exact ⟨hm.2.2.1.symm, hm.2.2.2.symm⟩
  · exact ⟨hm.2.2.1.symm, hm.2.2.2.symm⟩
  · exact ⟨hm.2.1.symm, hm.2.2.1.symm, hm.2.2.2.symm⟩
  · exact ⟨hm.2.1.symm, hm.2.2.1.symm, hm.2.2.2.symm⟩
  · exact ⟨hm.2.1.symm, hm.2.2.1.symm, hm.2.2.2.symm⟩
/-- the reference's: the candidate of a line's words is its command -/
theorem IsLine.cand {s : ByteArray} {d : Cmd} {l : List ByteArray} (h : IsLine d s) (hl : Parts 32 s l) : ∃ k : Nat, k < 9 ∧ d.kind = k ∧ cand k l = d ∧ 2 ≤ l.length ∧ l.length ≤ 4 := by
  obtain ⟨k, hk, h1, h2, h3⟩ := h.words
  obtain rfl := h3.uniq hl
  have := fldK_len hk
  exact ⟨k, hk, h1, cand_is hk h1 h2, by rw [fldLay_len]; omega, by rw [fldLay_len]; omega⟩

/-! ### What is said of a line without the document's answer -/
theorem count_join {c : UInt8} : ∀ {ps : List ByteArray}, ps ≠ [] → (∀ p ∈ ps, NoB c p) → (joinB c ps).count c + 1 = ps.length
  | [], h, _ => absurd rfl h
  | [p], _, h => by
    have : c ∉ p.data.toList := h p (by simp)
    show p.data.toList.count c + 1 = 1
    rw [List.count_eq_zero.2 this]
  | p :: q :: r, _, h => by
    have ih := count_join (c := c) (ps := q :: r) (by simp) (fun x hx => h x (List.mem_cons_of_mem _ hx))
    have hp : c ∉ p.data.toList := h p (by simp)
    show (p.data.toList ++ c :: joinB c (q :: r)).count c + 1 = _
    rw [List.count_append, List.count_eq_zero.2 hp, List.count_cons_self]
    simp only [List.length_cons] at ih ⊢
    omega
def slashes (l : List ByteArray) : List UInt8 := l.flatMap fun n => 47 :: n.data.toList
theorem slashes_join : ∀ {l : List ByteArray}, l ≠ [] → slashes l = 47 :: joinB 47 l
  | [], h => absurd rfl h
  | [p], _ => by simp [slashes, joinB]
  | p :: q :: r, _ => by
    have ih := slashes_join (l := q :: r) (by simp)
    show 47 :: p.data.toList ++ slashes (q :: r) = 47 :: (p.data.toList ++ 47 :: joinB 47 (q :: r))
    rw [ih]; rfl
end Go.Proofs.YtmloljjllmmkoaaDoor

