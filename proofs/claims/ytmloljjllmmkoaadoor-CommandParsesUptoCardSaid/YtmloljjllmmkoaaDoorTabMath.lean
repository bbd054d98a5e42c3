/-
  Layer 12: which lists may be, their bytes, and what is read of bytes: on values, with no program in it.
-/
import Derived.Test.YtmloljjllmmkoaaDoorWirM
namespace Go.Proofs.YtmloljjllmmkoaaDoor
open Go.RowKit Go

/-! ### Things -/
structure Ino where
  num : Int
  dir : Bool
  links : Int
  root : Int
  size : Int
structure Ent where
  name : ByteArray
  num : Int
structure Snp where
  name : ByteArray
  id : Int
  plane : Int
  root : Int
  size : Int

def nameByte (c : UInt8) : Bool := (97 ≤ c.toNat && c.toNat ≤ 122) || (48 ≤ c.toNat && c.toNat ≤ 57) || c.toNat == 46 || c.toNat == 45 || c.toNat == 95
def NameOk (s : ByteArray) : Prop := 1 ≤ s.size ∧ s.size ≤ 16 ∧ (∀ c ∈ s.data.toList, nameByte c = true) ∧ s.data.toList ≠ [46] ∧ s.data.toList ≠ [46, 46]
def BlobOk (root size : Int) : Prop := (size = 0 ∧ root = 0) ∨ (1 ≤ size ∧ size ≤ 16384 ∧ 1 ≤ root ∧ root ≤ 4095)
def InoOk (x : Ino) : Prop := 1 ≤ x.num ∧ x.num ≤ 65535 ∧ 1 ≤ x.links ∧ x.links ≤ 65535 ∧ BlobOk x.root x.size
def EntOk (x : Ent) : Prop := NameOk x.name ∧ 1 ≤ x.num ∧ x.num ≤ 65535
def SnpOk (x : Snp) : Prop := NameOk x.name ∧ 1 ≤ x.id ∧ x.id ≤ 1099511627776 ∧ 1 ≤ x.plane ∧ x.plane ≤ 7 ∧ BlobOk x.root x.size
def dirN (b : Bool) : Nat := if b then 1 else 0
def txt (s : ByteArray) : List UInt8 := dg s.size ++ s.data.toList
def inoEnc (x : Ino) : List UInt8 := layL [x.num.toNat, dirN x.dir, x.links.toNat, x.root.toNat, x.size.toNat]
def entEnc (x : Ent) : List UInt8 := txt x.name ++ layL [x.num.toNat]
def snpEnc (x : Snp) : List UInt8 := txt x.name ++ layL [x.id.toNat, x.plane.toNat, x.root.toNat, x.size.toNat]

/-! ### What is read -/
def inoRd (a b c d : Int) (r : Rd) : Ino × Rd :=
  let p1 := numR r a; let p2 := numR p1.2 1; let p3 := numR p2.2 b; let p4 := numR p3.2 c; let p5 := numR p4.2 d
  (⟨p1.1, p2.1 == 1, p3.1, p4.1, p5.1⟩, p5.2)
def entRd (a : Int) (r : Rd) : Ent × Rd :=
  let p1 := textR r 16; let p2 := numR p1.2 a
  (⟨bs p1.1, p2.1⟩, p2.2)
def snpRd (a b c d : Int) (r : Rd) : Snp × Rd :=
  let p1 := textR r 16; let p2 := numR p1.2 a; let p3 := numR p2.2 b; let p4 := numR p3.2 c; let p5 := numR p4.2 d
  (⟨bs p1.1, p2.1, p3.1, p4.1, p5.1⟩, p5.2)

theorem numR_latch {r : Rd} {m : Int} (h : (numR r m).2.err = 0) : r.err = 0 := by
  by_cases h0 : r.err = 0
  · exact h0
  · rw [numR_err h0] at h; exact h
theorem textR_latch {r : Rd} {m : Int} (h : (textR r m).2.err = 0) : r.err = 0 := by
  unfold textR at h
  refine numR_latch (m := low m) ?_
  by_cases h0 : (numR r (low m)).2.err = 0
  · exact h0
  · rw [bytesR_err h0] at h; exact h
theorem numR_rest' (r : Rd) (m : Int) : (numR r m).2.rest.length ≤ r.rest.length := by
  unfold numR
  split
  · split
    · exact Nat.le_refl _
    · exact Nat.le_refl _
    · split
      · simp
      · exact Nat.le_refl _
  · exact Nat.le_refl _
theorem bytesR_rest' (r : Rd) (n : Nat) : (bytesR r n).2.rest.length ≤ r.rest.length := by
  unfold bytesR
  split
  · split
    · simp
    · exact Nat.le_refl _
  · exact Nat.le_refl _
theorem textR_rest' (r : Rd) (m : Int) : (textR r m).2.rest.length ≤ r.rest.length := Nat.le_trans (bytesR_rest' _ _) (numR_rest' _ _)
theorem numR_dgi {z m : Int} (h : 0 ≤ z) (ht : z ≤ 4611686018427387903) (hm : z ≤ m) (r : List UInt8) : numR ⟨dg z.toNat ++ r, 0⟩ m = (z.toNat, ⟨r, 0⟩) :=
  numR_dg (by unfold top; omega) (by omega) r
theorem numR_got {r : Rd} {m : Int} (h : (numR r m).2.err = 0) : r.rest = dg (numR r m).1 ++ (numR r m).2.rest := by
  obtain ⟨p, hp⟩ : ∃ p, numR r m = p := ⟨_, rfl⟩
  have h0 := numR_latch h
  rw [hp] at h ⊢
  exact (numR_inv (r := r) (m := m) (n := p.1) (r1 := p.2) hp h0 h).1
theorem textR_got {r : Rd} {m : Int} (h : (textR r m).2.err = 0) : r.rest = txt (bs (textR r m).1) ++ (textR r m).2.rest := by
  obtain ⟨p, hp⟩ : ∃ p, textR r m = p := ⟨_, rfl⟩
  have h0 := textR_latch h
  rw [hp] at h ⊢
  have := (textR_inv (r := r) (m := m) (l := p.1) (r2 := p.2) hp h0 h).1
  rw [this]; unfold txt; rw [bs_size, bs_list]

theorem blob_bounds {a b : Int} (h : BlobOk a b) : 0 ≤ a ∧ a ≤ 4095 ∧ 0 ≤ b ∧ b ≤ 16384 := by
  rcases h with ⟨rfl, rfl⟩ | ⟨h1, h2, h3, h4⟩ <;> omega
theorem inoRd_enc {x : Ino} (h : InoOk x) {a b c d : Int} (ha : 65535 ≤ a) (hb : 65535 ≤ b) (hc : 4095 ≤ c) (hd : 16384 ≤ d) (r : List UInt8) : inoRd a b c d ⟨inoEnc x ++ r, 0⟩ = (x, ⟨r, 0⟩) := by
  obtain ⟨h1, h2, h3, h4, h5⟩ := h
  obtain ⟨b1, b2, b3, b4⟩ := blob_bounds h5
  obtain ⟨num, dir, links, root, size⟩ := x
  simp only at h1 h2 h3 h4 b1 b2 b3 b4
  have e : inoEnc ⟨num, dir, links, root, size⟩ ++ r = dg num.toNat ++ (dg (dirN dir) ++ (dg links.toNat ++ (dg root.toNat ++ (dg size.toNat ++ r)))) := by
    simp [inoEnc, layL, List.append_assoc]
  have hdir : dirN dir ≤ 1 := by cases dir <;> decide
  unfold inoRd
  rw [e, numR_dgi (by omega) (by omega) (by omega)]
  simp only
  rw [numR_dg (m := 1) (by unfold top; omega) (by omega)]
  simp only
  rw [numR_dgi (by omega) (by omega) (by omega)]
  simp only
  rw [numR_dgi (by omega) (by omega) (by omega)]
  simp only
  rw [numR_dgi (by omega) (by omega) (by omega)]
  simp only [Prod.mk.injEq, Ino.mk.injEq, and_true]
  refine ⟨by omega, ?_, by omega, by omega, by omega⟩
  cases dir <;> rfl
theorem inoRd_inv {a b c d : Int} {r : Rd} (h : (inoRd a b c d r).2.err = 0) : r.err = 0 ∧ r.rest = inoEnc (inoRd a b c d r).1 ++ (inoRd a b c d r).2.rest := by
  unfold inoRd at h ⊢
  simp only at h ⊢
  have g5 := numR_got h
  have h4 := numR_latch h
  have g4 := numR_got h4
  have h3 := numR_latch h4
  have g3 := numR_got h3
  have h2 := numR_latch h3
  have g2 := numR_got h2
  have l2 := numR_le _ _ h2
  have h1 := numR_latch h2
  have g1 := numR_got h1
  refine ⟨numR_latch h1, ?_⟩
  have e : dirN ((numR (numR r a).2 1).1 == 1) = (numR (numR r a).2 1).1 := by
    generalize (numR (numR r a).2 1).1 = n at l2 ⊢
    have : n = 0 ∨ n = 1 := by omega
    rcases this with rfl | rfl <;> rfl
  unfold inoEnc
  simp only [e, Int.toNat_natCast, layL, List.flatMap_cons, List.flatMap_nil, List.append_nil, List.append_assoc]
  rw [← g5, ← g4, ← g3, ← g2, ← g1]
theorem textR_txt {s : ByteArray} (h : s.size ≤ 16) (r : List UInt8) : textR ⟨txt s ++ r, 0⟩ 16 = (s.data.toList, ⟨r, 0⟩) := by
  have e : s.size = s.data.toList.length := (Array.length_toList (xs := s.data)).symm
  unfold txt
  rw [e] at h ⊢
  exact textR_dg (m := 16) (by omega) (by omega) r
theorem entRd_enc {x : Ent} (h : EntOk x) {a : Int} (ha : 65535 ≤ a) (r : List UInt8) : entRd a ⟨entEnc x ++ r, 0⟩ = (x, ⟨r, 0⟩) := by
  obtain ⟨h1, h2, h3⟩ := h
  obtain ⟨name, num⟩ := x
  simp only at h1 h2 h3
  have e : entEnc ⟨name, num⟩ ++ r = txt name ++ (dg num.toNat ++ r) := by simp [entEnc, layL, List.append_assoc]
  unfold entRd
  rw [e, textR_txt h1.2.1]
  simp only
  rw [numR_dgi (by omega) (by omega) (by omega)]
  simp only [Prod.mk.injEq, Ent.mk.injEq, and_true]
  exact ⟨bs_self _, by omega⟩
theorem entRd_inv {a : Int} {r : Rd} (h : (entRd a r).2.err = 0) : r.err = 0 ∧ r.rest = entEnc (entRd a r).1 ++ (entRd a r).2.rest := by
  unfold entRd at h ⊢
  simp only at h ⊢
  have g2 := numR_got h
  have h1 := numR_latch h
  have g1 := textR_got h1
  refine ⟨textR_latch h1, ?_⟩
  unfold entEnc
  simp only [Int.toNat_natCast, layL, List.flatMap_cons, List.flatMap_nil, List.append_nil, List.append_assoc]
  rw [← g2, ← g1]
theorem snpRd_enc {x : Snp} (h : SnpOk x) {a b c d : Int} (ha : 1099511627776 ≤ a) (hb : 7 ≤ b) (hc : 4095 ≤ c) (hd : 16384 ≤ d) (r : List UInt8) : snpRd a b c d ⟨snpEnc x ++ r, 0⟩ = (x, ⟨r, 0⟩) := by
  obtain ⟨h0, h1, h2, h3, h4, h5⟩ := h
  obtain ⟨b1, b2, b3, b4⟩ := blob_bounds h5
  obtain ⟨name, id, plane, root, size⟩ := x
  simp only at h0 h1 h2 h3 h4 b1 b2 b3 b4
  have e : snpEnc ⟨name, id, plane, root, size⟩ ++ r = txt name ++ (dg id.toNat ++ (dg plane.toNat ++ (dg root.toNat ++ (dg size.toNat ++ r)))) := by
    simp [snpEnc, layL, List.append_assoc]
  unfold snpRd
  rw [e, textR_txt h0.2.1]
  simp only
  rw [numR_dgi (by omega) (by omega) (by omega)]
  simp only
  rw [numR_dgi (by omega) (by omega) (by omega)]
  simp only
  rw [numR_dgi (by omega) (by omega) (by omega)]
  simp only
  rw [numR_dgi (by omega) (by omega) (by omega)]
  simp only [Prod.mk.injEq, Snp.mk.injEq, and_true]
  exact ⟨bs_self _, by omega, by omega, by omega, by omega⟩
theorem snpRd_inv {a b c d : Int} {r : Rd} (h : (snpRd a b c d r).2.err = 0) : r.err = 0 ∧ r.rest = snpEnc (snpRd a b c d r).1 ++ (snpRd a b c d r).2.rest := by
  unfold snpRd at h ⊢
  simp only at h ⊢
  have g5 := numR_got h
  have h4 := numR_latch h
  have g4 := numR_got h4
  have h3 := numR_latch h4
  have g3 := numR_got h3
  have h2 := numR_latch h3
  have g2 := numR_got h2
  have h1 := numR_latch h2
  have g1 := textR_got h1
  refine ⟨textR_latch h1, ?_⟩
  unfold snpEnc
  simp only [Int.toNat_natCast, layL, List.flatMap_cons, List.flatMap_nil, List.append_nil, List.append_assoc]
  rw [← g5, ← g4, ← g3, ← g2, ← g1]

/-! ### A kind of lists -/
structure Kd (T : Type) where
  enc : T → List UInt8
  ok : T → Prop
  lt : T → T → Prop
def kI : Kd Ino := ⟨inoEnc, InoOk, fun x y => x.num < y.num⟩
def kE : Kd Ent := ⟨entEnc, EntOk, fun x y => Op.bytesLess x.name.toList y.name.toList = true⟩
def kS : Kd Snp := ⟨snpEnc, SnpOk, fun x y => x.id < y.id⟩

section
variable {T : Type} (K : Kd T)
/-- the things ahead of place j may be -/
def MayTo (l : List T) (j : Nat) : Prop := ∀ i (h : i < l.length), i < j → K.ok l[i] ∧ ∀ (_ : 0 < i), K.lt (l[i - 1]'(by omega)) l[i]
def May (l : List T) : Prop := l.length ≤ 4096 ∧ MayTo K l l.length
def laidL (l : List T) : List UInt8 := dg l.length ++ l.flatMap K.enc
/-- s are the bytes of l -/
def IsL (s : List UInt8) (l : List T) : Prop := May K l ∧ laidL K l = s
def readN (f : Rd → T × Rd) : Nat → Rd → List T → List T × Rd
  | 0, r, acc => (acc, r)
  | k + 1, r, acc => if r.err = 0 then readN f k (f r).2 (acc ++ [(f r).1]) else (acc, r)
def parsed (f : Rd → T × Rd) (s : List UInt8) : List T × Rd := readN f (numR ⟨s, 0⟩ 4096).1 (numR ⟨s, 0⟩ 4096).2 []
/-- what f reads is what K lays -/
structure Reads (f : Rd → T × Rd) : Prop where
  enc : ∀ x, K.ok x → ∀ r, f ⟨K.enc x ++ r, 0⟩ = (x, ⟨r, 0⟩)
  inv : ∀ r, (f r).2.err = 0 → r.err = 0 ∧ r.rest = K.enc (f r).1 ++ (f r).2.rest
variable {K}
theorem MayTo.zero (l : List T) : MayTo K l 0 := fun _ _ h => absurd h (Nat.not_lt_zero _)
theorem MayTo.succ {l : List T} {j : Nat} (h : MayTo K l j) (hj : j < l.length) (h1 : K.ok l[j]) (h2 : ∀ (_ : 0 < j), K.lt (l[j - 1]'(by omega)) l[j]) : MayTo K l (j + 1) := by
  intro i hi hij
  by_cases e : i = j
  · subst e; exact ⟨h1, h2⟩
  · exact h i hi (by omega)
theorem not_may_ok {l : List T} {j : Nat} (hj : j < l.length) (h1 : ¬ K.ok l[j]) : ¬ May K l := fun h => h1 (h.2 j hj hj).1
theorem not_may_lt {l : List T} {j : Nat} (hj : j < l.length) (h0 : 0 < j) (h1 : ¬ K.lt (l[j - 1]'(by omega)) l[j]) : ¬ May K l := fun h => h1 ((h.2 j hj hj).2 h0)
theorem not_may_long {l : List T} (h : 4096 < l.length) : ¬ May K l := fun e => absurd e.1 (by omega)
theorem May.ok {l : List T} (h : May K l) {x : T} (hx : x ∈ l) : K.ok x := by
  obtain ⟨i, hi, rfl⟩ := List.mem_iff_getElem.1 hx
  exact (h.2 i hi hi).1
theorem readN_enc {f : Rd → T × Rd} (hf : Reads K f) : ∀ (l acc : List T) (r : List UInt8), (∀ x ∈ l, K.ok x) → readN f l.length ⟨l.flatMap K.enc ++ r, 0⟩ acc = (acc ++ l, ⟨r, 0⟩)
  | [], acc, r, _ => by simp [readN]
  | x :: l, acc, r, h => by
    rw [List.length_cons, readN, if_pos rfl, List.flatMap_cons, List.append_assoc, hf.enc x (h x (by simp))]
    simp only
    rw [readN_enc hf l (acc ++ [x]) r (fun y hy => h y (by simp [hy]))]
    simp
theorem parsed_laid {f : Rd → T × Rd} (hf : Reads K f) {l : List T} (h : May K l) : parsed f (laidL K l) = (l, ⟨[], 0⟩) := by
  unfold parsed laidL
  rw [numR_dg (by unfold top; have := h.1; omega) (by have := h.1; omega)]
  have := readN_enc hf l [] [] (fun x hx => h.ok hx)
  simpa using this
theorem readN_inv {f : Rd → T × Rd} (hf : Reads K f) : ∀ (k : Nat) (r : Rd) (acc : List T), (readN f k r acc).2.err = 0 → r.err = 0 ∧ ∃ l, (readN f k r acc).1 = acc ++ l ∧ l.length = k ∧ r.rest = l.flatMap K.enc ++ (readN f k r acc).2.rest
  | 0, r, acc, h => ⟨h, [], by simp [readN], rfl, by simp [readN]⟩
  | k + 1, r, acc, h => by
    rw [readN] at h ⊢
    split at h
    · rename_i h0
      rw [if_pos h0]
      obtain ⟨h1, l, e1, e2, e3⟩ := readN_inv hf k _ _ h
      refine ⟨h0, (f r).1 :: l, ?_, by simp [e2], ?_⟩
      · rw [e1]; simp
      · rw [List.flatMap_cons, List.append_assoc, ← e3]
        exact (hf.inv r h1).2
    · rename_i h0; exact absurd h h0
theorem laid_parsed {f : Rd → T × Rd} (hf : Reads K f) {s : List UInt8} (h : endR (parsed f s).2 = 0) : laidL K (parsed f s).1 = s := by
  unfold endR at h
  split at h
  · rename_i h0
    split at h
    · rename_i h1
      unfold parsed at h0 h1 ⊢
      obtain ⟨e0, l, e1, e2, e3⟩ := readN_inv hf _ _ _ h0
      have g := numR_got e0
      rw [h1, List.append_nil] at e3
      rw [e1, List.nil_append]
      unfold laidL
      rw [e2, ← e3]
      exact g.symm
    · cases h
  · rename_i h0; exact absurd h h0
/-- bytes are read as a list just if they are that list's -/
theorem isL_iff {f : Rd → T × Rd} (hf : Reads K f) (s : List UInt8) (l : List T) : IsL K s l ↔ endR (parsed f s).2 = 0 ∧ May K (parsed f s).1 ∧ (parsed f s).1 = l := by
  constructor
  · rintro ⟨h, rfl⟩
    rw [parsed_laid hf h]
    exact ⟨rfl, h, rfl⟩
  · rintro ⟨h1, h2, rfl⟩
    exact ⟨h2, laid_parsed hf h1⟩
theorem isL_none {f : Rd → T × Rd} (hf : Reads K f) {s : List UInt8} (h : ¬ (endR (parsed f s).2 = 0 ∧ May K (parsed f s).1)) (l : List T) : ¬ IsL K s l := fun e =>
  h ⟨((isL_iff hf s l).1 e).1, ((isL_iff hf s l).1 e).2.1⟩
theorem isL_self {f : Rd → T × Rd} (hf : Reads K f) {s : List UInt8} (h1 : endR (parsed f s).2 = 0) (h2 : May K (parsed f s).1) : IsL K s (parsed f s).1 := ⟨h2, laid_parsed hf h1⟩
theorem IsL.uniq {f : Rd → T × Rd} (hf : Reads K f) {s : List UInt8} {l m : List T} (h : IsL K s l) (k : IsL K s m) : l = m :=
  ((isL_iff hf s l).1 h).2.2.symm.trans ((isL_iff hf s m).1 k).2.2
/-- with more behind, bytes of a list are none's -/
theorem IsL.more {f : Rd → T × Rd} (hf : Reads K f) {s t : List UInt8} {l m : List T} (h : IsL K s l) (k : IsL K (s ++ t) m) : t = [] := by
  obtain ⟨h1, rfl⟩ := h
  have e := ((isL_iff hf _ m).1 k).1
  have e2 : parsed f (laidL K l ++ t) = (l, ⟨t, 0⟩) := by
    unfold parsed laidL
    rw [List.append_assoc, numR_dg (by unfold top; have := h1.1; omega) (by have := h1.1; omega)]
    have := readN_enc hf l [] t (fun x hx => h1.ok hx)
    simpa using this
  rw [e2] at e
  unfold endR at e
  rw [if_pos rfl] at e
  split at e
  · assumption
  · cases e
end
theorem readsI {a b c d : Int} (ha : 65535 ≤ a) (hb : 65535 ≤ b) (hc : 4095 ≤ c) (hd : 16384 ≤ d) : Reads kI (inoRd a b c d) :=
  ⟨fun _ h r => inoRd_enc h ha hb hc hd r, fun _ h => inoRd_inv h⟩
theorem readsE {a : Int} (ha : 65535 ≤ a) : Reads kE (entRd a) := ⟨fun _ h r => entRd_enc h ha r, fun _ h => entRd_inv h⟩
theorem readsS {a b c d : Int} (ha : 1099511627776 ≤ a) (hb : 7 ≤ b) (hc : 4095 ≤ c) (hd : 16384 ≤ d) : Reads kS (snpRd a b c d) :=
  ⟨fun _ h r => snpRd_enc h ha hb hc hd r, fun _ h => snpRd_inv h⟩

/-! ### How many bytes -/
theorem dg_1 {n : Nat} (h : n < 128) : (dg n).length ≤ 1 := dg_len 0 n (by omega)
theorem dg_2 {n : Nat} (h : n < 16384) : (dg n).length ≤ 2 := dg_len 1 n (by omega)
theorem dg_3 {n : Nat} (h : n < 2097152) : (dg n).length ≤ 3 := dg_len 2 n (by omega)
theorem dg_6 {n : Nat} (h : n < 4398046511104) : (dg n).length ≤ 6 := dg_len 5 n (by omega)
theorem inoEnc_len {x : Ino} (h : InoOk x) : (inoEnc x).length ≤ 12 := by
  obtain ⟨h1, h2, h3, h4, h5⟩ := h
  obtain ⟨b1, b2, b3, b4⟩ := blob_bounds h5
  have e1 := dg_3 (n := x.num.toNat) (by omega)
  have e2 := dg_1 (n := dirN x.dir) (by cases x.dir <;> decide)
  have e3 := dg_3 (n := x.links.toNat) (by omega)
  have e4 := dg_2 (n := x.root.toNat) (by omega)
  have e5 := dg_3 (n := x.size.toNat) (by omega)
  simp [inoEnc, layL]
  omega
theorem txt_len {s : ByteArray} (h : s.size ≤ 16) : (txt s).length ≤ 17 := by
  have e1 := dg_1 (n := s.size) (by omega)
  have e : s.data.toList.length = s.size := Array.length_toList (xs := s.data)
  unfold txt
  rw [List.length_append, e]
  omega
theorem entEnc_len {x : Ent} (h : EntOk x) : (entEnc x).length ≤ 20 := by
  obtain ⟨h1, h2, h3⟩ := h
  have e1 := dg_3 (n := x.num.toNat) (by omega)
  have e2 := txt_len h1.2.1
  simp [entEnc, layL]
  omega
theorem snpEnc_len {x : Snp} (h : SnpOk x) : (snpEnc x).length ≤ 29 := by
  obtain ⟨h0, h1, h2, h3, h4, h5⟩ := h
  obtain ⟨b1, b2, b3, b4⟩ := blob_bounds h5
  have e1 := dg_6 (n := x.id.toNat) (by omega)
  have e2 := dg_1 (n := x.plane.toNat) (by omega)
  have e4 := dg_2 (n := x.root.toNat) (by omega)
  have e5 := dg_3 (n := x.size.toNat) (by omega)
  have e6 := txt_len h0.2.1
  simp [snpEnc, layL]
  omega
theorem flat_len {T : Type} {f : T → List UInt8} {n : Nat} : ∀ (l : List T), (∀ x ∈ l, (f x).length ≤ n) → (l.flatMap f).length ≤ n * l.length
  | [], _ => by simp
  | x :: l, h => by
    have h1 := h x (by simp)
    have h2 := flat_len l fun y hy => h y (by simp [hy])
    rw [List.flatMap_cons, List.length_append, List.length_cons, Nat.mul_succ]
    omega
theorem laid_len {T : Type} {K : Kd T} {n : Nat} (hn : ∀ x, K.ok x → (K.enc x).length ≤ n) {l : List T} (h : May K l) : (laidL K l).length ≤ 2 + n * l.length := by
  have h1 := dg_2 (n := l.length) (by have := h.1; omega)
  have h2 := flat_len l fun x hx => hn x (h.ok hx)
  unfold laidL
  rw [List.length_append]
  omega
end Go.Proofs.YtmloljjllmmkoaaDoor

