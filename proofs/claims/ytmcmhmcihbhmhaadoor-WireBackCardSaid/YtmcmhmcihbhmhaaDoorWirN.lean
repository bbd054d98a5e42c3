/-
  Numbers, texts and rows of numbers, laid one behind the other: on lists.
-/
import Derived.Test.YtmcmhmcihbhmhaaDoorWirM
import Derived.Test.YtmcmhmcihbhmhaaDoorWirG
namespace Go.Proofs.YtmcmhmcihbhmhaaDoor
open Go.RowKit Go

/-- what stands at a place -/
def zAt (zs : List Int) (j : Nat) : Int := zs.getD j 0
def tAt (ts : List ByteArray) (j : Nat) : ByteArray := ts.getD j ⟨#[]⟩
def nats (zs : List Int) (j : Nat) : List Nat := (zs.take j).map Int.toNat
/-- a number, a text and the row of the numbers ahead, as bytes -/
def item (zs : List Int) (ts : List ByteArray) (j : Nat) : List UInt8 :=
  dg (zAt zs j).toNat ++ (dg (tAt ts j).size ++ (tAt ts j).data.toList) ++ (dg j ++ layL (nats zs j))
def itemsFrom (zs : List Int) (ts : List ByteArray) (i n : Nat) : List UInt8 := (List.range' i n).flatMap (item zs ts)
theorem itemsFrom_zero (zs : List Int) (ts : List ByteArray) (i : Nat) : itemsFrom zs ts i 0 = [] := rfl
theorem itemsFrom_head (zs : List Int) (ts : List ByteArray) (i n : Nat) : itemsFrom zs ts i (n + 1) = item zs ts i ++ itemsFrom zs ts (i + 1) n := by
  simp [itemsFrom, List.range'_succ]
theorem itemsFrom_last (zs : List Int) (ts : List ByteArray) (i n : Nat) : itemsFrom zs ts i (n + 1) = itemsFrom zs ts i n ++ item zs ts (i + n) := by
  simp [itemsFrom, List.range'_concat]
/-- all below a place may be -/
def fine (zs : List Int) (ts : List ByteArray) (k : Nat) : Prop := ∀ j, j < k → bad (zAt zs j) = false ∧ (tAt ts j).size ≤ 65536
theorem zAt_get {zs : List Int} {j : Nat} (h : j < zs.length) : zAt zs j = zs[j] := by simp [zAt, List.getD, List.getElem?_eq_getElem h]
theorem tAt_get {ts : List ByteArray} {j : Nat} (h : j < ts.length) : tAt ts j = ts[j] := by simp [tAt, List.getD, List.getElem?_eq_getElem h]
theorem fine.good {zs : List Int} {ts : List ByteArray} {k : Nat} (h : fine zs ts k) (hk : k ≤ zs.length) : (zs.take k).any bad = false := by
  cases hb : (zs.take k).any bad with
  | false => rfl
  | true =>
    obtain ⟨z, hz, hz2⟩ := List.any_eq_true.1 hb
    obtain ⟨j, hj, rfl⟩ := List.getElem_of_mem hz
    rw [List.length_take] at hj
    have := (h j (by omega)).1
    rw [zAt_get (by omega)] at this
    rw [List.getElem_take, this] at hz2
    cases hz2
theorem nats_len {zs : List Int} {k : Nat} (hk : k ≤ zs.length) : (nats zs k).length = k := by simp [nats]; omega
theorem fine.nats {zs : List Int} {ts : List ByteArray} {k : Nat} (h : fine zs ts k) (hk : k ≤ zs.length) : (nats zs k).map (fun n : Nat => (n : Int)) = zs.take k ∧ ∀ n ∈ nats zs k, n ≤ top ∧ (n : Int) ≤ 4611686018427387903 := by
  have hg := h.good hk
  refine ⟨(nums_toNat hg).1, fun n hn => ?_⟩
  obtain ⟨z, hz, rfl⟩ := List.mem_map.1 hn
  have hz2 : bad z = false := by
    cases hb : bad z with
    | false => rfl
    | true => rw [List.any_eq_true.2 ⟨z, hz, hb⟩] at hg; cases hg
  have := good_of hz2
  unfold top
  omega
theorem item_len {zs : List Int} {ts : List ByteArray} {k : Nat} (h : fine zs ts (k + 1)) (hk : k < zs.length) (h100 : k < 100) : (item zs ts k).length ≤ 66463 := by
  have h1 := good_of (h k (by omega)).1
  have h2 := (h k (by omega)).2
  have d1 := dg_9 (n := (zAt zs k).toNat) (by omega)
  have d2 := dg_9 (n := (tAt ts k).size) (by omega)
  have d3 := dg_9 (n := k) (by omega)
  have hf : fine zs ts k := fun j hj => h j (by omega)
  have h3 := layL_len (nats zs k) (fun n hn => by have := ((hf.nats (by omega)).2 n hn).2; omega)
  rw [nats_len (by omega)] at h3
  have h4 : (tAt ts k).data.toList.length = (tAt ts k).size := by simp
  simp only [item, List.length_append, h4]
  omega
/-- an item is read as it was -/
theorem item_read {zs : List Int} {ts : List ByteArray} {k : Nat} (h : fine zs ts (k + 1)) (hk : k < zs.length) (h100 : k < 100) (r : List UInt8) :
    numR ⟨item zs ts k ++ r, 0⟩ 4611686018427387903 = ((zAt zs k).toNat, ⟨dg (tAt ts k).size ++ (tAt ts k).data.toList ++ (dg k ++ layL (nats zs k) ++ r), 0⟩) ∧
    textR ⟨dg (tAt ts k).size ++ (tAt ts k).data.toList ++ (dg k ++ layL (nats zs k) ++ r), 0⟩ 1073741824 = ((tAt ts k).data.toList, ⟨dg k ++ layL (nats zs k) ++ r, 0⟩) ∧
    numsR ⟨dg k ++ layL (nats zs k) ++ r, 0⟩ 1073741824 4611686018427387903 = (nats zs k, ⟨r, 0⟩) := by
  have h1 := good_of (h k (by omega)).1
  have h2 := (h k (by omega)).2
  have hf : fine zs ts k := fun j hj => h j (by omega)
  have h4 : (tAt ts k).data.toList.length = (tAt ts k).size := by simp
  have h5 := nats_len (zs := zs) (k := k) (by omega)
  refine ⟨?_, ?_, ?_⟩
  · have e : item zs ts k ++ r = dg (zAt zs k).toNat ++ (dg (tAt ts k).size ++ (tAt ts k).data.toList ++ (dg k ++ layL (nats zs k) ++ r)) := by
      simp only [item, List.append_assoc]
    rw [e]
    exact numR_dg (by unfold top; omega) (by omega) _
  · have := textR_dg (l := (tAt ts k).data.toList) (m := 1073741824) (by omega) (by omega) (dg k ++ layL (nats zs k) ++ r)
    rwa [h4] at this
  · have := numsR_lay (ns := nats zs k) (k := 1073741824) (m := 4611686018427387903) (by omega) (by omega) (hf.nats (by omega)).2 r
    rwa [h5] at this
/-- what is laid of an item -/
theorem numW_at {z : Int} (h : bad z = false) : numW z = .tuple #[.string (bs (dg z.toNat)), .int .i64 0] := by unfold numW; rw [h]; rfl
theorem numW_no {z : Int} (h : bad z = true) : numW z = .tuple #[.string ⟨#[]⟩, .int .i64 31] := by unfold numW; rw [h]; rfl
theorem textW_at {t : ByteArray} (h : t.size ≤ 65536) : textW t.data.toList = .tuple #[.string (bs (dg t.size ++ t.data.toList)), .int .i64 0] := by
  have h4 : t.data.toList.length = t.size := by simp
  unfold textW; rw [h4, if_pos h]
theorem textW_no {t : ByteArray} (h : ¬ t.size ≤ 65536) : textW t.data.toList = .tuple #[.string ⟨#[]⟩, .int .i64 31] := by
  have h4 : t.data.toList.length = t.size := by simp
  unfold textW; rw [h4, if_neg h]
theorem numsW_at {zs : List Int} {ts : List ByteArray} {k : Nat} (h : fine zs ts k) (hk : k ≤ zs.length) (h100 : k ≤ 100) : numsW (zs.take k) = .tuple #[.string (bs (dg k ++ layL (nats zs k))), .int .i64 0] := by
  have hl : (zs.take k).length = k := by rw [List.length_take]; omega
  unfold numsW; rw [hl, if_pos ⟨by omega, h.good hk⟩]; rfl
theorem items_fine_len {zs : List Int} {ts : List ByteArray} : ∀ k, fine zs ts k → k ≤ zs.length → k ≤ 100 → (itemsFrom zs ts 0 k).length ≤ 66463 * k
  | 0, _, _, _ => by simp [itemsFrom]
  | k + 1, h, hk, h100 => by
    have h1 := items_fine_len k (fun j hj => h j (by omega)) (by omega) (by omega)
    have h2 := item_len h (by omega) (by omega)
    rw [itemsFrom_last, List.length_append, Nat.zero_add]
    omega
theorem items_len {zs : List Int} {ts : List ByteArray} (i : Nat) : ∀ n, fine zs ts (i + n) → i + n ≤ zs.length → i + n ≤ 100 → (itemsFrom zs ts i n).length ≤ 66463 * n
  | 0, _, _, _ => by simp [itemsFrom]
  | n + 1, h, hk, h100 => by
    have h1 := items_len i n (fun j hj => h j (by omega)) (by omega) (by omega)
    have h2 := item_len (k := i + n) (fun j hj => h j (by omega)) (by omega) (by omega)
    rw [itemsFrom_last, List.length_append]
    omega
theorem textW_form (l : List UInt8) : ∃ (S : ByteArray) (e : Int), textW l = .tuple #[.string S, .int .i64 e] := by
  unfold textW; split
  · exact ⟨_, _, rfl⟩
  · exact ⟨_, _, rfl⟩
end Go.Proofs.YtmcmhmcihbhmhaaDoor
