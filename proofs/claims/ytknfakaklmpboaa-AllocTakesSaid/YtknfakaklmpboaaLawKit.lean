/-
  Texts and lists of numbers in a law, for a seat with cards that uses KitL (in the place of LawKit).
-/
import Derived.Test.YtknfakaklmpboaaSetsE1
import Derived.Test.YtknfakaklmpboaaSetsE2
import Derived.Test.YtknfakaklmpboaaSetsE4
import Derived.Test.YtknfakaklmpboaaKitL
namespace Go.Proofs.Ytknfakaklmpboaa
open Go.ChangeShapes Go.WideShapes Go.ChangeAt Go.RowKit Go SM
theorem IntsAt.split {W : World} {v : Value} {zs : List Int} (h : IntsAt W v zs) : ∃ a cap, v = .slice a zs.length cap ∧ (zs ≠ [] → ∃ b off, a = some ⟨b, off, none⟩ ∧ b < W.heap.size ∧ ∀ j (h : j < zs.length), W.cell? ⟨b, off + j, none⟩ = some (.int .i64 zs[j])) := by
  rcases h with ⟨rfl, rfl⟩ | ⟨b, off, cap, rfl, hb, hc⟩
  · exact ⟨none, 0, rfl, fun h => absurd rfl h⟩
  · exact ⟨_, cap, rfl, fun _ => ⟨b, off, rfl, hb, hc⟩⟩
theorem IntsAt.later {W W' : World} {v : Value} {zs : List Int} (h : IntsAt W v zs) (hB : Below W.heap.size W W') : IntsAt W' v zs := by
  rcases h with h | ⟨b, off, cap, h1, hb, hc⟩
  · exact .inl h
  · exact .inr ⟨b, off, cap, h1, Nat.lt_of_lt_of_le hb hB.size, fun j hj => (hB.cell (p := ⟨b, off + j, none⟩) hb).trans (hc j hj)⟩

def toInts (l : List Nat) : List Int := l.map fun n : Nat => (n : Int)
theorem intsAt_of_owns {W : World} {base : Nat} {v : Value} {l : List Nat} (h : W.ownsRow base 3 1 v l.length (ints l)) : IntsAt W v (toInts l) := by
  by_cases hv : v = .slice none 0 0
  · rcases h.2 with ⟨_, h0⟩ | ⟨g, cap, cur, e, _⟩
    · exact .inl ⟨hv, by rw [List.eq_nil_of_length_eq_zero h0]; rfl⟩
    · rw [hv] at e; cases e
  · obtain ⟨g, cap, rfl, _, hg, _, _, hc⟩ := row_cells h hv
    refine .inr ⟨g, 0, cap, by simp [toInts], hg, fun j hj => ?_⟩
    have hj' : j < l.length := by simpa [toInts] using hj
    rw [Nat.zero_add, hc j (.int .i64 l[j]) (by simp [ints, hj'])]
    simp [toInts]
theorem toInts_inj {a b : List Nat} : toInts a = toInts b ↔ a = b := by
  constructor
  · intro h
    have := congrArg (List.map Int.toNat) h
    simpa [toInts, List.map_map, Function.comp_def] using this
  · rintro rfl; rfl
theorem length_toInts (l : List Nat) : (toInts l).length = l.length := by simp [toInts]

/-! ### Strings in a law -/
def bs (l : List UInt8) : ByteArray := ⟨l.toArray⟩
theorem str_bs (l : List UInt8) : str l = .string (bs l) := rfl
theorem bs_list (l : List UInt8) : (bs l).data.toList = l := by simp [bs]
theorem bs_size (l : List UInt8) : (bs l).size = l.length := by simp [bs, ByteArray.size]
theorem bs_inj {a b : List UInt8} : bs a = bs b ↔ a = b := by
  constructor
  · intro h
    rw [← bs_list a, h, bs_list]
  · rintro rfl; rfl
/-! ### What two texts make, as texts -/
def andB (a b : ByteArray) : ByteArray := bs (mk band a.data.toList b.data.toList)
def orB (a b : ByteArray) : ByteArray := bs (mk bor a.data.toList b.data.toList)
def subB (a b : ByteArray) : ByteArray := bs (mk bsub a.data.toList b.data.toList)
def cntB (a : ByteArray) : Nat := cnt a.data.toList
theorem size_mk (f : UInt8 → UInt8 → UInt8) (a b : ByteArray) : (bs (mk f a.data.toList b.data.toList)).size ≤ max a.size b.size := by
  rw [bs_size]; have := mk_length f a.data.toList b.data.toList; simpa using this
theorem size_andB (a b : ByteArray) : (andB a b).size ≤ max a.size b.size := size_mk _ _ _
theorem size_orB (a b : ByteArray) : (orB a b).size ≤ max a.size b.size := size_mk _ _ _
theorem size_subB (a b : ByteArray) : (subB a b).size ≤ max a.size b.size := size_mk _ _ _
theorem cntB_le (a : ByteArray) : cntB a ≤ 8 * a.size := by have := cnt_le a.data.toList; simpa [cntB] using this
theorem list_andB (a b : ByteArray) : (andB a b).data.toList = mk band a.data.toList b.data.toList := bs_list _
theorem list_orB (a b : ByteArray) : (orB a b).data.toList = mk bor a.data.toList b.data.toList := bs_list _
theorem list_subB (a b : ByteArray) : (subB a b).data.toList = mk bsub a.data.toList b.data.toList := bs_list _
theorem cnt_b (a : ByteArray) (w : World) (ha : a.size ≤ 140737488355328) :
    Calls Try.prog 19 #[.string a] w fun e w' => e = .returned (.int .i64 (cntB a)) ∧ w = w' := count_any a w ha
theorem nextV_form (l : List UInt8) (f : Int) : ∃ (a : Int) (b : Bool), nextV l f = .tuple #[.int .i64 a, .bool b] := by
  unfold nextV; split
  · exact ⟨_, _, rfl⟩
  · exact ⟨_, _, rfl⟩
end Go.Proofs.Ytknfakaklmpboaa

