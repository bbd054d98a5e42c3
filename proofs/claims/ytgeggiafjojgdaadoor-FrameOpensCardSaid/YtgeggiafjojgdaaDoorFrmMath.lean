/-
  A message's bytes, on lists: which message may be, what is sealed, what is opened.
-/
import Derived.Test.YtgeggiafjojgdaaDoorWirM
import Derived.Test.YtgeggiafjojgdaaDoorDigMath
namespace Go.Proofs.YtgeggiafjojgdaaDoor
open Go.RowKit Go

structure Fr where
  kind : Int
  ses : Int
  seq : Int
  body : ByteArray
structure FrOk (f : Fr) : Prop where
  k0 : 0 ≤ f.kind
  k1 : f.kind ≤ 7
  s0 : 0 ≤ f.ses
  s1 : f.ses ≤ 1073741824
  q0 : 0 ≤ f.seq
  q1 : f.seq ≤ 1073741824
  b : f.body.size ≤ 2000
/-- what a call can be handed -/
structure FrIn (f : Fr) : Prop where
  k : -9223372036854775808 ≤ f.kind ∧ f.kind ≤ 9223372036854775807
  s : -9223372036854775808 ≤ f.ses ∧ f.ses ≤ 9223372036854775807
  q : -9223372036854775808 ≤ f.seq ∧ f.seq ≤ 9223372036854775807
  b : f.body.size ≤ 140737488351232
theorem FrOk.in_ {f : Fr} (h : FrOk f) : FrIn f := ⟨⟨by have := h.k0; omega, by have := h.k1; omega⟩, ⟨by have := h.s0; omega, by have := h.s1; omega⟩, ⟨by have := h.q0; omega, by have := h.q1; omega⟩, by have := h.b; omega⟩
def frV (f : Fr) : Value := .agg #[.int .i64 f.kind, .int .i64 f.ses, .int .i64 f.seq, .string f.body]
def fr0 : Fr := ⟨0, 0, 0, ⟨#[]⟩⟩
theorem Fr.ext' {f g : Fr} (h1 : f.kind = g.kind) (h2 : f.ses = g.ses) (h3 : f.seq = g.seq) (h4 : f.body = g.body) : f = g := by
  cases f; cases g; simp at h1 h2 h3 h4; subst h1 h2 h3 h4; rfl

def keyF : ByteArray := ⟨#[115, 116, 105, 108, 108, 97, 103, 101, 32, 108, 105, 110, 107, 32, 111, 107]⟩
theorem keyF_size : keyF.size = 16 := rfl
def sumL (l : List UInt8) : List UInt8 := DG.sum keyF.data.toList l
theorem sumL_len (l : List UInt8) : (sumL l).length = 8 := DG.sum_length _ _
def layF (f : Fr) : List UInt8 := dg f.kind.toNat ++ (dg f.ses.toNat ++ (dg f.seq.toNat ++ (dg f.body.size ++ f.body.data.toList)))
def withSum (l : List UInt8) : List UInt8 := l ++ sumL l
def sealL (f : Fr) : List UInt8 := withSum (layF f)
theorem body_len (f : Fr) : f.body.data.toList.length = f.body.size := by simp
theorem withSum_len (l : List UInt8) : (withSum l).length = l.length + 8 := by simp [withSum, sumL_len]
theorem layF_len {f : Fr} (h : FrOk f) : (layF f).length ≤ 2013 ∧ 4 ≤ (layF f).length := by
  have h1 := dg_len 0 f.kind.toNat (by have := h.k1; omega)
  have h2 := dg_len 4 f.ses.toNat (by have := h.s1; omega)
  have h3 := dg_len 4 f.seq.toNat (by have := h.q1; omega)
  have h4 := dg_len 1 f.body.size (by have := h.b; omega)
  have p1 := dg_pos f.kind.toNat
  have p2 := dg_pos f.ses.toNat
  have p3 := dg_pos f.seq.toNat
  have p4 := dg_pos f.body.size
  have hb := h.b
  simp only [layF, List.length_append, body_len]
  omega
/-- bytes that end with their sum -/
def Summed (l : List UInt8) : Prop := 8 ≤ l.length ∧ l.drop (l.length - 8) = sumL (l.take (l.length - 8))
theorem summed_with (l : List UInt8) : Summed (withSum l) := by
  refine ⟨by rw [withSum_len]; omega, ?_⟩
  rw [withSum_len, show l.length + 8 - 8 = l.length by omega, withSum, List.drop_left, List.take_left]
theorem take_with (l : List UInt8) : (withSum l).take ((withSum l).length - 8) = l := by
  rw [withSum_len, show l.length + 8 - 8 = l.length by omega, withSum, List.take_left]
theorem Summed.eq {l : List UInt8} (h : Summed l) : l = withSum (l.take (l.length - 8)) := by
  rw [withSum, ← h.2, List.take_append_drop]
theorem summed_iff (l : List UInt8) (_h : 8 ≤ l.length) : Summed l ↔ withSum (l.take (l.length - 8)) = l := by
  constructor
  · intro hs; exact hs.eq.symm
  · intro e
    have := summed_with (l.take (l.length - 8))
    rwa [e] at this

/-! ### What is read -/
def rd1 (l : List UInt8) (m : Int) : Nat × Rd := numR ⟨l, 0⟩ m
def rd2 (l : List UInt8) (m : Int) : Nat × Rd := numR (rd1 l m).2 m
def rd3 (l : List UInt8) (m : Int) : Nat × Rd := numR (rd2 l m).2 m
def rd4 (l : List UInt8) (m : Int) : List UInt8 × Rd := textR (rd3 l m).2 65536
def frR (l : List UInt8) (m : Int) : Fr := ⟨(rd1 l m).1, (rd2 l m).1, (rd3 l m).1, bs (rd4 l m).1⟩
def frE (l : List UInt8) (m : Int) : Int := endR (rd4 l m).2
theorem layF_split (f : Fr) : layF f = dg f.kind.toNat ++ (dg f.ses.toNat ++ (dg f.seq.toNat ++ (dg f.body.data.toList.length ++ f.body.data.toList))) := by
  rw [body_len]; rfl
theorem read_lay {f : Fr} (h : FrOk f) {m : Int} (hm : 1073741824 ≤ m) : frR (layF f) m = f ∧ frE (layF f) m = 0 := by
  have b1 : f.kind.toNat ≤ top := by have := h.k1; unfold top; omega
  have b2 : f.ses.toNat ≤ top := by have := h.s1; unfold top; omega
  have b3 : f.seq.toNat ≤ top := by have := h.q1; unfold top; omega
  have e1 : rd1 (layF f) m = (f.kind.toNat, ⟨dg f.ses.toNat ++ (dg f.seq.toNat ++ (dg f.body.data.toList.length ++ f.body.data.toList)), 0⟩) := by
    rw [rd1, layF_split, numR_dg b1 (by have := h.k0; have := h.k1; omega)]
  have e2 : rd2 (layF f) m = (f.ses.toNat, ⟨dg f.seq.toNat ++ (dg f.body.data.toList.length ++ f.body.data.toList), 0⟩) := by
    rw [rd2, e1, numR_dg b2 (by have := h.s0; have := h.s1; omega)]
  have e3 : rd3 (layF f) m = (f.seq.toNat, ⟨dg f.body.data.toList.length ++ f.body.data.toList, 0⟩) := by
    rw [rd3, e2, numR_dg b3 (by have := h.q0; have := h.q1; omega)]
  have hb : f.body.data.toList.length ≤ 65536 := by rw [body_len]; have := h.b; omega
  have e4 : rd4 (layF f) m = (f.body.data.toList, ⟨[], 0⟩) := by
    rw [rd4, e3, textR_dg0 hb (by omega)]
  refine ⟨Fr.ext' ?_ ?_ ?_ ?_, ?_⟩
  · show ((rd1 (layF f) m).1 : Int) = _; rw [e1]; have := h.k0; simp; omega
  · show ((rd2 (layF f) m).1 : Int) = _; rw [e2]; have := h.s0; simp; omega
  · show ((rd3 (layF f) m).1 : Int) = _; rw [e3]; have := h.q0; simp; omega
  · show bs (rd4 (layF f) m).1 = _; rw [e4]; rfl
  · rw [frE, e4]; rfl
theorem numR_latch {r : Rd} {m : Int} (h : (numR r m).2.err = 0) : r.err = 0 := Classical.byContradiction fun h0 => by
  rw [numR_err h0] at h; exact h0 h
theorem textR_latch {r : Rd} {m : Int} (h : (textR r m).2.err = 0) : r.err = 0 := Classical.byContradiction fun h0 => by
  rw [textR, numR_err h0, bytesR_err h0] at h; exact h0 h
theorem read_inv {l : List UInt8} {m : Int} (h : frE l m = 0) : l = layF (frR l m) ∧ 0 ≤ (frR l m).kind ∧ 0 ≤ (frR l m).ses ∧ 0 ≤ (frR l m).seq := by
  have h4 : (rd4 l m).2.err = 0 ∧ (rd4 l m).2.rest = [] := by
    unfold frE endR at h
    split at h
    · rename_i h0
      split at h
      · rename_i h1; exact ⟨h0, h1⟩
      · cases h
    · rename_i h0; exact absurd h h0
  have h3 : (rd3 l m).2.err = 0 := textR_latch h4.1
  have h2 : (rd2 l m).2.err = 0 := numR_latch h3
  have h1 : (rd1 l m).2.err = 0 := numR_latch h2
  obtain ⟨e1, -⟩ := numR_inv (r := ⟨l, 0⟩) (m := m) (n := (rd1 l m).1) (r1 := (rd1 l m).2) rfl rfl h1
  obtain ⟨e2, -⟩ := numR_inv (r := (rd1 l m).2) (m := m) (n := (rd2 l m).1) (r1 := (rd2 l m).2) rfl h1 h2
  obtain ⟨e3, -⟩ := numR_inv (r := (rd2 l m).2) (m := m) (n := (rd3 l m).1) (r1 := (rd3 l m).2) rfl h2 h3
  obtain ⟨e4, -⟩ := textR_inv (r := (rd3 l m).2) (m := 65536) (l := (rd4 l m).1) (r2 := (rd4 l m).2) rfl h3 h4.1
  rw [h4.2, List.append_nil] at e4
  refine ⟨?_, by show 0 ≤ ((rd1 l m).1 : Int); omega, by show 0 ≤ ((rd2 l m).1 : Int); omega, by show 0 ≤ ((rd3 l m).1 : Int); omega⟩
  rw [layF_split]
  show l = dg ((rd1 l m).1 : Int).toNat ++ (dg ((rd2 l m).1 : Int).toNat ++ (dg ((rd3 l m).1 : Int).toNat ++ (dg (bs (rd4 l m).1).data.toList.length ++ (bs (rd4 l m).1).data.toList)))
  rw [bs_list, Int.toNat_natCast, Int.toNat_natCast, Int.toNat_natCast, ← e4, ← e3, ← e2, ← e1]
theorem layF_inj {f g : Fr} (hf : FrOk f) (hg : FrOk g) (h : layF f = layF g) : f = g := by
  have a := (read_lay hf (m := 1073741824) (by omega)).1
  have b := (read_lay hg (m := 1073741824) (by omega)).1
  rw [← a, ← b, h]
theorem withSum_inj {a b : List UInt8} (h : withSum a = withSum b) : a = b := by
  have h1 := take_with a
  have h2 := take_with b
  rw [h] at h1
  exact h1.symm.trans h2
theorem sealL_inj {f g : Fr} (hf : FrOk f) (hg : FrOk g) (h : sealL f = sealL g) : f = g := layF_inj hf hg (withSum_inj h)

/-! ### What is told -/
/-- Seal's answer -/
noncomputable def sealV (f : Fr) : Value := open Classical in if FrOk f then .tuple #[.string (bs (sealL f)), .int .i64 0] else .tuple #[.string ⟨#[]⟩, .int .i64 170]
theorem sealV_ok {f : Fr} (h : FrOk f) : sealV f = .tuple #[.string (bs (sealL f)), .int .i64 0] := if_pos h
theorem sealV_no {f : Fr} (h : ¬ FrOk f) : sealV f = .tuple #[.string ⟨#[]⟩, .int .i64 170] := if_neg h
/-- Open's answer: the message, and what is wrong -/
def OpenIs (l : List UInt8) (f : Fr) (e : Int) : Prop :=
  (¬ Summed l ∧ f = fr0 ∧ e = 171) ∨ (FrOk f ∧ l = sealL f ∧ e = 0) ∨ (Summed l ∧ (∀ g, FrOk g → l ≠ sealL g) ∧ f = fr0 ∧ e = 170)
theorem OpenIs.uniq {l : List UInt8} {f g : Fr} {a b : Int} (h : OpenIs l f a) (k : OpenIs l g b) : f = g ∧ a = b := by
  rcases h with ⟨h1, rfl, rfl⟩ | ⟨h1, h2, rfl⟩ | ⟨h1, h2, rfl, rfl⟩ <;> rcases k with ⟨k1, rfl, rfl⟩ | ⟨k1, k2, rfl⟩ | ⟨k1, k2, rfl, rfl⟩
  · exact ⟨rfl, rfl⟩
  · exact absurd (k2 ▸ summed_with _) h1
  · exact absurd k1 h1
  · exact absurd (h2 ▸ summed_with _) k1
  · exact ⟨sealL_inj h1 k1 (h2.symm.trans k2), rfl⟩
  · exact absurd h2 (k2 f h1)
  · exact absurd h1 k1
  · exact absurd k2 (h2 g k1)
  · exact ⟨rfl, rfl⟩
/-- what is read of summed bytes tells which message they are -/
theorem open_of_read {l : List UInt8} (hs : Summed l) {m : Int} (hm : 1073741824 ≤ m) :
    (frE (l.take (l.length - 8)) m = 0 ∧ FrOk (frR (l.take (l.length - 8)) m) → OpenIs l (frR (l.take (l.length - 8)) m) 0) ∧
    (¬ (frE (l.take (l.length - 8)) m = 0 ∧ FrOk (frR (l.take (l.length - 8)) m)) → OpenIs l fr0 170) := by
  constructor
  · rintro ⟨h1, h2⟩
    refine Or.inr (Or.inl ⟨h2, ?_, rfl⟩)
    rw [sealL, ← (read_inv h1).1]
    exact hs.eq
  · intro h
    refine Or.inr (Or.inr ⟨hs, fun g hg e => h ?_, rfl, rfl⟩)
    have : l.take (l.length - 8) = layF g := by rw [e]; exact take_with _
    rw [this]
    have hr := read_lay hg hm
    exact ⟨hr.2, by rw [hr.1]; exact hg⟩
theorem rest_le (l : List UInt8) (m : Int) : (rd1 l m).2.rest.length ≤ l.length ∧ (rd2 l m).2.rest.length ≤ l.length ∧ (rd3 l m).2.rest.length ≤ l.length := by
  have hn : ∀ (r : Rd) (m : Int), (numR r m).2.rest.length ≤ r.rest.length := by
    intro r m; unfold numR; split
    · split
      · simp
      · simp
      · split <;> simp
    · simp
  have h1 : (rd1 l m).2.rest.length ≤ l.length := hn _ _
  have h2 : (rd2 l m).2.rest.length ≤ l.length := Nat.le_trans (hn _ _) h1
  exact ⟨h1, h2, Nat.le_trans (hn _ _) h2⟩
end Go.Proofs.YtgeggiafjojgdaaDoor

