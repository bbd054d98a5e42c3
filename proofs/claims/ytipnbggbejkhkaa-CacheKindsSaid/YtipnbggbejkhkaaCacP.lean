/-
  A cache of texts by texts beside one of numbers by the same keys.
-/
import Derived.Test.YtipnbggbejkhkaaCacIX
import Derived.Test.YtipnbggbejkhkaaCacSX
import Derived.Laws.BytesArg
import Derived.IntWalk
namespace Go.Proofs.Ytipnbggbejkhkaa
open Go.RowKit Go

section
variable {K V K' V' : Type} [DecidableEq K] [DecidableEq K'] (f : K → K') (g : V → V')
/-- the same things by other keys -/
def mapL (L : List (K × V)) : List (K' × V') := L.map fun x => (f x.1, g x.2)
theorem mapL_drop {L : List (K × V)} {k : K} (hf : ∀ x ∈ L, f x.1 = f k → x.1 = k) : dropL (mapL f g L) (f k) = mapL f g (dropL L k) := by
  unfold dropL mapL
  rw [List.filter_map]
  congr 1
  refine List.filter_congr fun x hx => ?_
  simp only [Function.comp, ne_eq, decide_not]
  by_cases e : x.1 = k
  · simp [e]
  · have : ¬ f x.1 = f k := fun e2 => e (hf x hx e2)
    simp [e, this]
theorem mapL_get {L : List (K × V)} {k : K} (hf : ∀ x ∈ L, f x.1 = f k → x.1 = k) : getL (mapL f g L) (f k) = (getL L k).map g := by
  unfold getL mapL
  induction L with
  | nil => rfl
  | cons x L ih =>
    rw [List.map_cons]
    by_cases e : x.1 = k
    · rw [List.find?_cons_of_pos (by simp [e]), List.find?_cons_of_pos (by simp [e])]; rfl
    · have : ¬ f x.1 = f k := fun e2 => e (hf x (by simp) e2)
      rw [List.find?_cons_of_neg (by simpa using this), List.find?_cons_of_neg (by simpa using e)]
      exact ih (fun y hy => hf y (List.mem_cons_of_mem _ hy))
theorem mapL_put {L : List (K × V)} {k : K} (v : V) (r : Nat) (hf : ∀ x ∈ L, f x.1 = f k → x.1 = k) : putL r (mapL f g L) (f k) (g v) = mapL f g (putL r L k v) := by
  unfold putL
  rw [mapL_drop f g hf]
  unfold mapL
  rw [List.map_take]; rfl
theorem mapL_gone {L : List (K × V)} {k : K} (v : V) (r : Nat) (hf : ∀ x ∈ L, f x.1 = f k → x.1 = k) : goneL r (mapL f g L) (f k) (g v) = (goneL r L k v).map f := by
  unfold goneL
  rw [mapL_drop f g hf]
  rw [show (f k, g v) :: mapL f g (dropL L k) = mapL f g ((k, v) :: dropL L k) from rfl]
  unfold mapL
  rw [List.getElem?_map, Option.map_map, Option.map_map]
  rfl
omit [DecidableEq K] [DecidableEq K'] in
theorem mapL_len (L : List (K × V)) : (mapL f g L).length = L.length := by unfold mapL; rw [List.length_map]
end

/-- a key as a text -/
def kb (n : Int) : ByteArray := ⟨#[UInt8.ofNat (n.toNat + 32)]⟩
def Low (L : List (Int × ByteArray)) : Prop := ∀ x ∈ L, 0 ≤ x.1 ∧ x.1 ≤ 63
theorem kb_inj {a b : Int} (ha : 0 ≤ a ∧ a ≤ 63) (hb : 0 ≤ b ∧ b ≤ 63) (h : kb a = kb b) : a = b := by
  unfold kb at h
  have h1 : UInt8.ofNat (a.toNat + 32) = UInt8.ofNat (b.toNat + 32) := by
    have := congrArg ByteArray.data h
    simpa using this
  have h2 := congrArg UInt8.toNat h1
  rw [UInt8.toNat_ofNat_of_lt' (by simp [UInt8.size]; omega), UInt8.toNat_ofNat_of_lt' (by simp [UInt8.size]; omega)] at h2
  omega
theorem kb_ok (n : Int) : CS.Ok (kb n) := by
  show (kb n).size ≤ 281474976710656
  have : (kb n).size = 1 := rfl
  omega
def size (s : ByteArray) : Int := s.size
abbrev TL (L : List (Int × ByteArray)) : List (ByteArray × Int) := mapL kb size L
theorem low_inj {L : List (Int × ByteArray)} (h : Low L) {n : Int} (hn : 0 ≤ n ∧ n ≤ 63) : ∀ x ∈ L, kb x.1 = kb n → x.1 = n := fun x hx e => kb_inj (h x hx) hn e
theorem Low.drop {L : List (Int × ByteArray)} (h : Low L) (n : Int) : Low (dropL L n) := fun x hx => h x (List.mem_filter.1 hx).1
theorem Low.cons {L : List (Int × ByteArray)} (h : Low L) {n : Int} (hn : 0 ≤ n ∧ n ≤ 63) (s : ByteArray) : Low ((n, s) :: L) := fun x hx => by
  rcases List.mem_cons.1 hx with rfl | hx
  · exact hn
  · exact h x hx
theorem Low.put {L : List (Int × ByteArray)} (h : Low L) {n : Int} (hn : 0 ≤ n ∧ n ≤ 63) (s : ByteArray) (r : Nat) : Low (putL r L n s) := fun x hx => ((h.drop n).cons hn s) x (List.mem_of_mem_take hx)
theorem gone_low {L : List (Int × ByteArray)} (h : Low L) {n : Int} (hn : 0 ≤ n ∧ n ≤ 63) {s : ByteArray} {r : Nat} {g : Int} (hg : goneL r L n s = some g) : 0 ≤ g ∧ g ≤ 63 := by
  unfold goneL at hg
  obtain ⟨x, hx, rfl⟩ := Option.map_eq_some_iff.1 hg
  exact ((h.drop n).cons hn s) x (List.mem_of_getElem? hx)

theorem kinds_get {L : List (Int × ByteArray)} (h : Low L) {n : Int} (hn : 0 ≤ n ∧ n ≤ 63) :
    (∃ s b, CI.getV L n = .tuple #[.string s, .bool b] ∧ CS.getV (TL L) (kb n) = .tuple #[.int .i64 (s.size : Nat), .bool b]) ∧ useL (TL L) (kb n) = TL (useL L n) ∧ Low (useL L n) := by
  have e := mapL_get kb size (low_inj h hn)
  unfold CI.getV CS.getV useL
  rw [e]
  cases hg : getL L n with
  | none => exact ⟨⟨_, _, rfl, rfl⟩, rfl, h⟩
  | some s =>
    refine ⟨⟨_, _, rfl, rfl⟩, ?_, (h.drop n).cons hn s⟩
    simp only [Option.map_some]
    rw [mapL_drop kb size (low_inj h hn)]; rfl
theorem kinds_put {L : List (Int × ByteArray)} (h : Low L) {n : Int} (hn : 0 ≤ n ∧ n ≤ 63) (s : ByteArray) (r : Nat) :
    ((CI.putV r L n s = .tuple #[.int .i64 0, .bool false] ∧ CS.putV r (TL L) (kb n) (size s) = .tuple #[.string ⟨#[]⟩, .bool false]) ∨
      ∃ g : Nat, g ≤ 63 ∧ CI.putV r L n s = .tuple #[.int .i64 g, .bool true] ∧ CS.putV r (TL L) (kb n) (size s) = .tuple #[.string (kb g), .bool true]) ∧
    putL r (TL L) (kb n) (size s) = TL (putL r L n s) ∧ Low (putL r L n s) := by
  have e := mapL_gone kb size s r (low_inj h hn)
  refine ⟨?_, mapL_put kb size s r (low_inj h hn), h.put hn s r⟩
  unfold CI.putV CS.putV
  rw [e]
  cases hg : goneL r L n s with
  | none => exact Or.inl ⟨rfl, rfl⟩
  | some g =>
    obtain ⟨g1, g2⟩ := gone_low h hn hg
    obtain ⟨m, rfl⟩ : ∃ m : Nat, g = m := ⟨g.toNat, by omega⟩
    exact Or.inr ⟨m, by omega, rfl, rfl⟩
theorem kinds_drop {L : List (Int × ByteArray)} (h : Low L) {n : Int} (hn : 0 ≤ n ∧ n ≤ 63) :
    (getL (TL L) (kb n)).isSome = (getL L n).isSome ∧ dropL (TL L) (kb n) = TL (dropL L n) ∧ Low (dropL L n) := by
  refine ⟨?_, mapL_drop kb size (low_inj h hn), h.drop n⟩
  rw [mapL_get kb size (low_inj h hn), Option.isSome_map]

/-- the two caches, which share no block -/
structure Mix (w0 : World) (F : Nat → Prop) (c k : Nat) (A : List (Int × ByteArray)) (G : Nat → Prop) (d : Nat) (B : List (ByteArray × Int)) (w : World) : Prop where
  a : CI.CX w0 F c k A w
  b : CS.CX w0 G d k B w
  apart : ∀ i, F i → ¬ G i
section
variable {w0 w w' : World} {F F' G G' : Nat → Prop} {c k d : Nat} {A A' : List (Int × ByteArray)} {B B' : List (ByteArray × Int)}
theorem Mix.left (h : Mix w0 F c k A G d B w) (hc : CI.CX w0 F' c k A' w') (hs : Step F F' w w') : Mix w0 F' c k A' G d B w' :=
  ⟨hc, h.b.stay hs.1 (fun i hi hF => h.apart i hF hi) (fun i hi => h.a.1.low hi), fun i hi hG => by
    rcases hs.2 i hi with h1 | h1
    · exact h.apart i h1 hG
    · have := h.b.lt hG; omega⟩
theorem Mix.right (h : Mix w0 F c k A G d B w) (hc : CS.CX w0 G' d k B' w') (hs : Step G G' w w') : Mix w0 F c k A G' d B' w' :=
  ⟨h.a.stay hs.1 (fun i hi => h.apart i hi) (fun i hi => h.b.1.low hi), hc, fun i hi hG => by
    rcases hs.2 i hG with h1 | h1
    · exact h.apart i hi h1
    · have := h.a.lt hi; omega⟩
theorem Mix.later (h : Mix w0 F c k A G d B w) (x : Below w.heap.size w w') : Mix w0 F c k A G d B w' :=
  ⟨h.a.later x, h.b.later x, h.apart⟩
end

/-! ### What the walk meets -/
theorem and63 (M : Int) : ∃ n : Nat, n ≤ 63 ∧ bits .and .i64 M 63 = (n : Int) := by
  refine ⟨(BitVec.ofInt 64 M &&& BitVec.ofInt 64 63).toNat, ?_, ?_⟩
  · rw [BitVec.toNat_and]
    exact Nat.and_le_right
  · show IntKind.i64.wrap ((BitVec.ofInt 64 M &&& BitVec.ofInt 64 63).toNat : Int) = _
    have h : (BitVec.ofInt 64 M &&& BitVec.ofInt 64 63).toNat ≤ 63 := by
      rw [BitVec.toNat_and]
      exact Nat.and_le_right
    exact IntWalk.i64_in _ (by omega)
theorem byte32 (n : Nat) (h : n ≤ 63) : IntKind.u8.wrap ((n : Int) + 32) = ((UInt8.ofNat (n + 32)).toNat : Int) := by
  rw [UInt8.toNat_ofNat_of_lt' (by simp [UInt8.size]; omega)]
  show ((n : Int) + 32) % 256 = _
  omega
/-- one byte as a text -/
theorem conv_one (W : World) (b : UInt8) : (convert 46 9 (.slice (some ⟨W.heap.size, 0, none⟩) 1 1)).run Try.prog (W.alloc (.cells #[.int .u8 (b.toNat : Nat)] 5)) = .ok (.string ⟨#[b]⟩) (W.alloc (.cells #[.int .u8 (b.toNat : Nat)] 5)) :=
  run_convert_bytes_back _ 46 9 5 ⟨W.heap.size, 0, none⟩ 1 [b] Try.underlying46 Try.underlying5 Try.underlying9 (fun j hj => by
    have : j = 0 := by simpa using hj
    subst this
    exact cell_one_new W (.int .u8 (b.toNat : Nat)) 5 0 _ rfl)
end Go.Proofs.Ytipnbggbejkhkaa
