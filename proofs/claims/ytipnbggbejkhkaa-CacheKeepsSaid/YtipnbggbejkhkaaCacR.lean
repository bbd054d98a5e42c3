/-
  What was put, one behind the other: the last keys, as many as there is room for.
-/
import Derived.Test.YtipnbggbejkhkaaCacN
import Derived.Laws.BytesArg
import Derived.IntWalk
namespace Go.Proofs.Ytipnbggbejkhkaa
open Go.RowKit Go

section
variable {K V : Type} [DecidableEq K]
/-- of a history, the newest one first, each key once -/
def once : List (K × V) → List (K × V)
  | [] => []
  | x :: H => x :: dropL (once H) x.1
/-- the search for the last keys -/
def scan (r : Nat) (acc : List (K × V)) : List (K × V) → List (K × V)
  | [] => acc
  | x :: H => if acc.length < r then scan r (if x.1 ∈ keysL acc then acc else acc ++ [x]) H else acc

omit [DecidableEq K] in
theorem keysL_append (A B : List (K × V)) : keysL (A ++ B) = keysL A ++ keysL B := List.map_append
theorem once_nodup : ∀ H : List (K × V), (keysL (once H)).Nodup
  | [] => by simp [once, keysL]
  | x :: H => by
    show (x.1 :: keysL (dropL (once H) x.1)).Nodup
    rw [List.nodup_cons]
    refine ⟨?_, ?_⟩
    · rw [keysL_drop]; simp
    · rw [keysL_drop]; exact (once_nodup H).filter _
theorem scan_once (r : Nat) : ∀ (H acc : List (K × V)), acc.length ≤ r → scan r acc H = (acc ++ (once H).filter (fun y => y.1 ∉ keysL acc)).take r
  | [], acc, h => by rw [scan, once, List.filter_nil, List.append_nil, List.take_of_length_le h]
  | x :: H, acc, h => by
    rw [scan, once]
    by_cases hr : acc.length < r
    · rw [if_pos hr]
      by_cases hx : x.1 ∈ keysL acc
      · rw [if_pos hx, scan_once r H acc h, List.filter_cons_of_neg (by simpa using hx)]
        congr 2
        unfold dropL
        rw [List.filter_filter]
        refine List.filter_congr fun y _ => ?_
        by_cases hy : y.1 ∈ keysL acc
        · simp [hy]
        · have : y.1 ≠ x.1 := fun e => hy (e ▸ hx)
          simp [hy, this]
      · rw [if_neg hx, scan_once r H (acc ++ [x]) (by rw [List.length_append]; simp; omega), List.filter_cons_of_pos (by simpa using hx), List.append_assoc, List.singleton_append]
        congr 3
        unfold dropL
        rw [List.filter_filter]
        refine List.filter_congr fun y _ => ?_
        rw [keysL_append, show keysL [x] = [x.1] from rfl]
        by_cases hy : y.1 ∈ keysL acc
        · simp [hy]
        · by_cases e : y.1 = x.1
          · simp [e]
          · simp [hy, e]
    · rw [if_neg hr, List.take_append_of_le_length (by omega), List.take_of_length_le h]
theorem put_once (r : Nat) (hr : 1 ≤ r) (H : List (K × V)) (x : K × V) : putL r ((once H).take r) x.1 x.2 = (once (x :: H)).take r := by
  unfold putL
  rw [once]
  obtain ⟨R, e, h⟩ := drop_take (once_nodup H) r x.1
  rw [e]
  obtain ⟨r', rfl⟩ : ∃ r', r = r' + 1 := ⟨r - 1, by omega⟩
  rw [List.take_succ_cons, List.take_succ_cons]
  congr 1
  rcases h with h | rfl
  · rw [List.take_append_of_le_length (by omega)]
  · rw [List.append_nil]
theorem scan_all (r : Nat) (H : List (K × V)) : scan r [] H = (once H).take r := by
  rw [scan_once r H [] (Nat.zero_le _), List.nil_append, List.filter_eq_self.2]
  intro y _
  simp [keysL]
theorem useL_get (L : List (K × V)) (k k' : K) : getL (useL L k) k' = getL L k' := by
  unfold useL
  cases hg : getL L k with
  | none => rfl
  | some v =>
    show getL ((k, v) :: dropL L k) k' = getL L k'
    by_cases e : k = k'
    · subst e
      rw [hg]
      unfold getL
      rw [List.find?_cons_of_pos (by simp)]; rfl
    · unfold getL dropL
      rw [List.find?_cons_of_neg (by simpa using e), List.find?_filter]
      congr 2
      funext x
      by_cases hx : x.1 = k'
      · have : x.1 ≠ k := fun e2 => e (e2.symm.trans hx)
        simp [hx]
        exact fun e2 => this (hx.trans e2)
      · simp [hx]
theorem getL_at : ∀ {L : List (K × V)} (_ : (keysL L).Nodup) {i : Nat} (h : i < L.length), getL L L[i].1 = some L[i].2
  | x :: L, hn, 0, _ => by unfold getL; rw [List.find?_cons_of_pos (by simp)]; rfl
  | x :: L, hn, i + 1, h => by
    unfold keysL at hn
    rw [List.map_cons, List.nodup_cons] at hn
    have hi : i < L.length := by simpa using h
    have : x.1 ≠ L[i].1 := fun e => hn.1 (List.mem_map.2 ⟨L[i], List.getElem_mem hi, e.symm⟩)
    show getL (x :: L) L[i].1 = some L[i].2
    unfold getL
    rw [List.find?_cons_of_neg (by simpa using this)]
    exact getL_at hn.2 hi
end

/-- the text of a place -/
def tx (i : Nat) : ByteArray := ⟨#[UInt8.ofNat i, UInt8.ofNat (i / 256)]⟩
/-- what was put of the first m keys, the newest one first -/
def hist (zs : List Int) : Nat → List (Int × ByteArray)
  | 0 => []
  | m + 1 => (zs.getD m 0, tx m) :: hist zs m
def strVals (l : List (Int × ByteArray)) : List Value := l.map fun x => .string x.2
theorem byte_at (i : Nat) : IntKind.u8.wrap (i : Int) = ((UInt8.ofNat i).toNat : Int) ∧ IntKind.u8.wrap ((i : Int) / 256) = ((UInt8.ofNat (i / 256)).toNat : Int) := by
  constructor
  · show (i : Int) % 256 = _
    simp
  · show ((i : Int) / 256) % 256 = _
    simp
theorem conv_two {U : World} {g : Nat} {a b : UInt8} {t : TypeId} {fr : Nat × Nat} (h : U.heap[g]? = some (.cells #[.int .u8 (a.toNat : Nat), .int .u8 (b.toNat : Nat)] t fr)) :
    (convert 46 9 (.slice (some ⟨g, 0, none⟩) 2 2)).run Try.prog U = .ok (.string ⟨#[a, b]⟩) U :=
  run_convert_bytes_back _ 46 9 5 ⟨g, 0, none⟩ 2 [a, b] Try.underlying46 Try.underlying5 Try.underlying9 (fun j hj => by
    have hj2 : j < 2 := by simpa using hj
    rw [Addr.add_lit, Nat.zero_add]
    simp only [World.cell?, h]
    match j, hj2 with
    | 0, _ => rfl
    | 1, _ => rfl)
theorem infoS : (Try.prog.info? 9).map (fun i => (i.zero, i.size, i.bytes)) = some (some (.string ⟨#[]⟩), 1, 16) := by kernel_rfl
theorem min300 (n : Nat) : ∃ k : Nat, k ≤ n ∧ k ≤ 300 ∧ (if (300 : Int) < (n : Int) then (300 : Int) else (n : Int)) = (k : Int) := by
  by_cases h : (300 : Int) < (n : Int)
  · exact ⟨300, by omega, by omega, by rw [if_pos h]; rfl⟩
  · exact ⟨n, by omega, by omega, by rw [if_neg h]⟩
end Go.Proofs.Ytipnbggbejkhkaa
