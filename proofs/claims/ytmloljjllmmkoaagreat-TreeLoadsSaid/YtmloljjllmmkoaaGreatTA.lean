/-
  TreMath / TreLv / TreVol / TreRd / TreEx / TreNd / TreOne.
-/
import Derived.Test.YtmloljjllmmkoaaGreatNA
import Derived.Test.YtmloljjllmmkoaaGreatBM
namespace Go.Proofs.YtmloljjllmmkoaaGreat.TR
open Go

def part (b : List UInt8) (i : Nat) : List UInt8 := (b.drop (240 * i)).take 240
def cuts (n : Nat) : Nat := (n + 239) / 240
/-- the bytes of pointers -/
def ptrs : List Nat → List UInt8
  | [] => []
  | n :: l => leN n 4 ++ ptrs l
theorem length_ptrs : ∀ l, (ptrs l).length = 4 * l.length
  | [] => rfl
  | n :: l => by rw [ptrs, List.length_append, length_leN, length_ptrs l, List.length_cons]; omega
theorem ptrs_app : ∀ a b, ptrs (a ++ b) = ptrs a ++ ptrs b
  | [], b => rfl
  | n :: a, b => by rw [List.cons_append, ptrs, ptrs, ptrs_app a b, List.append_assoc]
theorem ptrs_drop : ∀ (l : List Nat) (i : Nat), (ptrs l).drop (4 * i) = ptrs (l.drop i)
  | l, 0 => by simp
  | [], i + 1 => by simp [ptrs]
  | n :: l, i + 1 => by
    rw [ptrs, show 4 * (i + 1) = 4 + 4 * i by omega, List.drop_append, length_leN, List.drop_eq_nil_of_le (by rw [length_leN]; omega), List.nil_append, show 4 + 4 * i - 4 = 4 * i by omega, ptrs_drop l i, List.drop_succ_cons]
theorem ptrs_take : ∀ (l : List Nat) (i : Nat), (ptrs l).take (4 * i) = ptrs (l.take i)
  | l, 0 => by simp [ptrs]
  | [], i + 1 => by simp [ptrs]
  | n :: l, i + 1 => by
    rw [ptrs, show 4 * (i + 1) = 4 + 4 * i by omega, List.take_append, length_leN, List.take_of_length_le (by rw [length_leN]; omega), show 4 + 4 * i - 4 = 4 * i by omega, ptrs_take l i, List.take_succ_cons, ptrs]
theorem ptrs_part (l : List Nat) (i : Nat) : part (ptrs l) i = ptrs ((l.drop (60 * i)).take 60) := by
  unfold part
  rw [show 240 * i = 4 * (60 * i) by omega, ptrs_drop, show (240 : Nat) = 4 * 60 by rfl, ptrs_take]
theorem ptrs_inj : ∀ {a b : List Nat}, (∀ x ∈ a, x < 4294967296) → (∀ x ∈ b, x < 4294967296) → ptrs a = ptrs b → a = b
  | [], [], _, _, _ => rfl
  | [], y :: b, _, _, h => by
    have := congrArg List.length h
    rw [length_ptrs, length_ptrs] at this
    simp at this
  | x :: a, [], _, _, h => by
    have := congrArg List.length h
    rw [length_ptrs, length_ptrs] at this
    simp at this
  | x :: a, y :: b, ha, hb, h => by
    rw [ptrs, ptrs] at h
    obtain ⟨h1, h2⟩ := List.append_inj h (by rw [length_leN, length_leN])
    rw [leN_inj (ha x List.mem_cons_self) (hb y List.mem_cons_self) h1, ptrs_inj (fun z hz => ha z (List.mem_cons_of_mem _ hz)) (fun z hz => hb z (List.mem_cons_of_mem _ hz)) h2]
theorem cuts_zero {n : Nat} : cuts n = 0 ↔ n = 0 := by unfold cuts; omega
theorem length_part (b : List UInt8) (i : Nat) : (part b i).length = min 240 (b.length - 240 * i) := by simp [part]
/-- the parts make the bytes -/
theorem part_cons (b : List UInt8) (i : Nat) : b.drop (240 * i) = part b i ++ b.drop (240 * (i + 1)) := by
  unfold part
  rw [show 240 * (i + 1) = 240 * i + 240 by omega, ← List.drop_drop, List.take_append_drop]

/-- what each block says -/
abbrev Mem := Nat → List UInt8
def memput (M : Mem) (n : Nat) (s : List UInt8) : Mem := fun k => if k = n then s else M k
theorem memput_same (M : Mem) (n : Nat) (s : List UInt8) : memput M n s n = s := by simp [memput]
theorem memput_other (M : Mem) {n k : Nat} (s : List UInt8) (h : k ≠ n) : memput M n s k = M k := by simp [memput, h]
/-- a row of blocks bears the parts of these bytes -/
def Bears (M : Mem) (b : List UInt8) (now : List Nat) : Prop := now.length = cuts b.length ∧ ∀ i (h : i < now.length), M now[i] = part b i
def Bore (M : Mem) (b : List UInt8) (now : List Nat) : Prop := ∀ i (h : i < now.length), M now[i] = part b i

structure RowR where
  ok : Bool
  now : List Nat
  mem : Mem
  free : List Nat
/-- a row is stored: what is as it was at its place is shared, else the next free block is taken -/
def storeRow (old : List Nat) (had b : List UInt8) : Nat → Nat → Mem → List Nat → RowR
  | 0, _, M, fr => ⟨true, [], M, fr⟩
  | k + 1, i, M, fr =>
    if h : i < old.length ∧ part had i = part b i then
      ⟨(storeRow old had b k (i + 1) M fr).ok, old[i]'h.1 :: (storeRow old had b k (i + 1) M fr).now, (storeRow old had b k (i + 1) M fr).mem, (storeRow old had b k (i + 1) M fr).free⟩
    else match fr with
      | [] => ⟨false, [], M, []⟩
      | f :: fr' => ⟨(storeRow old had b k (i + 1) (memput M f (part b i)) fr').ok, f :: (storeRow old had b k (i + 1) (memput M f (part b i)) fr').now, (storeRow old had b k (i + 1) (memput M f (part b i)) fr').mem, (storeRow old had b k (i + 1) (memput M f (part b i)) fr').free⟩
section
variable {old : List Nat} {had b : List UInt8}
theorem row_share {k i : Nat} {M : Mem} {fr : List Nat} (h : i < old.length ∧ part had i = part b i) : storeRow old had b (k + 1) i M fr =
    ⟨(storeRow old had b k (i + 1) M fr).ok, old[i]'h.1 :: (storeRow old had b k (i + 1) M fr).now, (storeRow old had b k (i + 1) M fr).mem, (storeRow old had b k (i + 1) M fr).free⟩ := by
  rw [storeRow.eq_def]
  simp only [dif_pos h]
theorem row_full {k i : Nat} {M : Mem} (h : ¬ (i < old.length ∧ part had i = part b i)) : storeRow old had b (k + 1) i M [] = ⟨false, [], M, []⟩ := by
  rw [storeRow.eq_def]
  simp only [dif_neg h]
theorem row_take {k i : Nat} {M : Mem} {f : Nat} {fr : List Nat} (h : ¬ (i < old.length ∧ part had i = part b i)) : storeRow old had b (k + 1) i M (f :: fr) =
    ⟨(storeRow old had b k (i + 1) (memput M f (part b i)) fr).ok, f :: (storeRow old had b k (i + 1) (memput M f (part b i)) fr).now, (storeRow old had b k (i + 1) (memput M f (part b i)) fr).mem, (storeRow old had b k (i + 1) (memput M f (part b i)) fr).free⟩ := by
  rw [storeRow.eq_def]
  simp only [dif_neg h]
/-- what a row that is stored comes to: t blocks are taken -/
structure RowOk (O old : List Nat) (had b : List UInt8) (k i : Nat) (M : Mem) (fr : List Nat) (r : RowR) (t : Nat) : Prop where
  le : t ≤ fr.length
  most : t ≤ k
  free : r.free = fr.drop t
  keep : ∀ x, x ∉ fr.take t → r.mem x = M x
  len : r.ok = true → r.now.length = k
  bears : r.ok = true → ∀ j (h : j < r.now.length), r.mem r.now[j] = part b (i + j)
  mem : r.ok = true → ∀ x ∈ r.now, x ∈ old.drop i ∨ x ∈ fr.take t
  nodup : r.ok = true → r.now.Nodup
  count : r.ok = true → r.now.countP (fun x => decide (x ∈ O)) + t = k
  full : r.ok = false → t = fr.length ∧ t < k
theorem row_ok (O : List Nat) (hO : ∀ x ∈ old, x ∈ O) (hno : old.Nodup) : ∀ (k i : Nat) (M : Mem) (fr : List Nat), fr.Nodup → (∀ x ∈ O, x ∉ fr) → Bore M had old → ∃ t, RowOk O old had b k i M fr (storeRow old had b k i M fr) t
  | 0, i, M, fr, _, _, _ => ⟨0, by omega, by omega, by simp [storeRow], fun x _ => rfl, fun _ => rfl, fun _ j h => by simp [storeRow] at h, fun _ x h => by simp [storeRow] at h, fun _ => by simp [storeRow], fun _ => by simp [storeRow], fun h => by simp [storeRow] at h⟩
  | k + 1, i, M, fr, hn, hd, hb => by
    by_cases h : i < old.length ∧ part had i = part b i
    · rw [row_share h]
      obtain ⟨t, r⟩ := row_ok O hO hno k (i + 1) M fr hn hd hb
      have hmo : old[i]'h.1 ∈ O := hO _ (List.getElem_mem h.1)
      have hmf : old[i]'h.1 ∉ fr.take t := fun e => hd _ hmo (List.mem_of_mem_take e)
      refine ⟨t, r.le, Nat.le_succ_of_le r.most, r.free, r.keep, fun e => ?_, fun e j hj => ?_, fun e x hx => ?_, fun e => ?_, fun e => ?_, fun e => ?_⟩
      · simp only [List.length_cons]; rw [r.len e]
      · match j, hj with
        | 0, _ => simp only [List.getElem_cons_zero, Nat.add_zero]; rw [r.keep _ hmf, hb i h.1]; exact h.2
        | j + 1, hj =>
          simp only [List.getElem_cons_succ]
          rw [show i + (j + 1) = i + 1 + j by omega]
          exact r.bears e j (by simpa using hj)
      · rcases List.mem_cons.1 hx with rfl | hx
        · left
          rw [List.drop_eq_getElem_cons h.1]
          exact List.mem_cons_self
        · rcases r.mem e x hx with m | m
          · left
            rw [List.drop_eq_getElem_cons h.1]
            exact List.mem_cons_of_mem _ m
          · exact .inr m
      · rw [List.nodup_cons]
        refine ⟨fun hm => ?_, r.nodup e⟩
        rcases r.mem e _ hm with m | m
        · have hnd : (old.drop i).Nodup := hno.sublist (List.drop_sublist _ _)
          rw [List.drop_eq_getElem_cons h.1, List.nodup_cons] at hnd
          exact hnd.1 m
        · exact hmf m
      · rw [List.countP_cons_of_pos (by simpa using hmo)]
        have := r.count e
        omega
      · have := r.full e
        omega
    · cases fr with
      | nil =>
        rw [row_full h]
        exact ⟨0, by simp, by omega, by simp, fun x _ => rfl, fun e => (by cases e), fun e => (by cases e), fun e => (by cases e), fun e => (by cases e), fun e => (by cases e), fun _ => ⟨rfl, by omega⟩⟩
      | cons f fr =>
        rw [row_take h]
        have hn' := List.nodup_cons.1 hn
        have hfO : ∀ x ∈ O, x ≠ f := fun x hx e => hd x hx (by rw [e]; exact List.mem_cons_self)
        obtain ⟨t, r⟩ := row_ok O hO hno k (i + 1) (memput M f (part b i)) fr hn'.2 (fun x hx hf => hd x hx (List.mem_cons_of_mem _ hf)) (fun j hj => by rw [memput_other _ _ (hfO _ (hO _ (List.getElem_mem hj)))]; exact hb j hj)
        have hft : f ∉ fr.take t := fun e => hn'.1 (List.mem_of_mem_take e)
        refine ⟨t + 1, by have := r.le; simp; omega, by have := r.most; omega, by rw [r.free, List.drop_succ_cons], fun x hx => ?_, fun e => ?_, fun e j hj => ?_, fun e x hx => ?_, fun e => ?_, fun e => ?_, fun e => ?_⟩
        · rw [List.take_succ_cons, List.mem_cons, not_or] at hx
          rw [r.keep x hx.2, memput_other _ _ hx.1]
        · simp only [List.length_cons]; rw [r.len e]
        · match j, hj with
          | 0, _ => simp only [List.getElem_cons_zero, Nat.add_zero]; rw [r.keep _ hft, memput_same]
          | j + 1, hj =>
            simp only [List.getElem_cons_succ]
            rw [show i + (j + 1) = i + 1 + j by omega]
            exact r.bears e j (by simpa using hj)
        · rw [List.take_succ_cons]
          rcases List.mem_cons.1 hx with rfl | hx
          · exact .inr List.mem_cons_self
          · rcases r.mem e x hx with m | m
            · left
              rw [show old.drop (i + 1) = (old.drop i).drop 1 by rw [List.drop_drop]] at m
              exact List.mem_of_mem_drop m
            · exact .inr (List.mem_cons_of_mem _ m)
        · rw [List.nodup_cons]
          refine ⟨fun hm => ?_, r.nodup e⟩
          rcases r.mem e _ hm with m | m
          · exact hfO f (hO f (List.mem_of_mem_drop m)) rfl
          · exact hft m
        · rw [List.countP_cons_of_neg (by simpa using fun e => hfO f e rfl)]
          have := r.count e
          omega
        · have := r.full e
          simp only [List.length_cons]
          omega
/-- all that is as it was is shared -/
theorem row_same : ∀ (k i : Nat) (M : Mem) (fr : List Nat), (∀ j, j < k → i + j < old.length ∧ part had (i + j) = part b (i + j)) → storeRow old had b k i M fr = ⟨true, (old.drop i).take k, M, fr⟩
  | 0, i, M, fr, _ => by simp [storeRow]
  | k + 1, i, M, fr, h => by
    have h0 := h 0 (by omega)
    rw [Nat.add_zero] at h0
    rw [row_share h0, row_same k (i + 1) M fr (fun j hj => by have := h (j + 1) (by omega); rwa [show i + (j + 1) = i + 1 + j by omega] at this), List.drop_eq_getElem_cons h0.1, List.take_succ_cons]
end

/-- how many blocks each level has, the chunks first -/
def rowsN : Nat → Nat → List Nat
  | 0, _ => []
  | f + 1, n => if n = 0 then [] else if cuts n = 1 then [1] else cuts n :: rowsN f (4 * cuts n)
def rowsL (n : Nat) : List Nat := rowsN 4 n
structure LvR where
  ok : Bool
  lv : List (List Nat)
  mem : Mem
  free : List Nat
/-- a tree's levels are stored, each over the old one's: of chunks whatever the old tree is, of pointers if it has as many levels -/
def storeLv (alike : Bool) : List Nat → Bool → List (List Nat) → List UInt8 → List UInt8 → Mem → List Nat → LvR
  | [], _, _, _, _, M, fr => ⟨true, [], M, fr⟩
  | k :: ks, first, olds, had, b, M, fr =>
    if (storeRow (if first || alike then olds.headD [] else []) had b k 0 M fr).ok then
      ⟨(storeLv alike ks false olds.tail (ptrs (olds.headD [])) (ptrs (storeRow (if first || alike then olds.headD [] else []) had b k 0 M fr).now) (storeRow (if first || alike then olds.headD [] else []) had b k 0 M fr).mem (storeRow (if first || alike then olds.headD [] else []) had b k 0 M fr).free).ok,
        (storeRow (if first || alike then olds.headD [] else []) had b k 0 M fr).now :: (storeLv alike ks false olds.tail (ptrs (olds.headD [])) (ptrs (storeRow (if first || alike then olds.headD [] else []) had b k 0 M fr).now) (storeRow (if first || alike then olds.headD [] else []) had b k 0 M fr).mem (storeRow (if first || alike then olds.headD [] else []) had b k 0 M fr).free).lv,
        (storeLv alike ks false olds.tail (ptrs (olds.headD [])) (ptrs (storeRow (if first || alike then olds.headD [] else []) had b k 0 M fr).now) (storeRow (if first || alike then olds.headD [] else []) had b k 0 M fr).mem (storeRow (if first || alike then olds.headD [] else []) had b k 0 M fr).free).mem,
        (storeLv alike ks false olds.tail (ptrs (olds.headD [])) (ptrs (storeRow (if first || alike then olds.headD [] else []) had b k 0 M fr).now) (storeRow (if first || alike then olds.headD [] else []) had b k 0 M fr).mem (storeRow (if first || alike then olds.headD [] else []) had b k 0 M fr).free).free⟩
    else ⟨false, [], (storeRow (if first || alike then olds.headD [] else []) had b k 0 M fr).mem, (storeRow (if first || alike then olds.headD [] else []) had b k 0 M fr).free⟩
/-- the levels of a tree of these bytes -/
def Tree (M : Mem) : List (List Nat) → List UInt8 → Prop
  | [], b => b = []
  | [now], b => Bears M b now ∧ now.length = 1
  | now :: nx :: rest, b => Bears M b now ∧ 1 < now.length ∧ Tree M (nx :: rest) (ptrs now)
/-- each level bears the parts of its bytes -/
def Olds (M : Mem) : List (List Nat) → List UInt8 → Prop
  | [], _ => True
  | o :: os, had => Bore M had o ∧ Olds M os (ptrs o)
theorem Tree.olds {M : Mem} : ∀ {lv : List (List Nat)} {b : List UInt8}, Tree M lv b → Olds M lv b
  | [], _, _ => trivial
  | [_], _, h => ⟨h.1.2, trivial⟩
  | _ :: _ :: _, _, h => ⟨h.1.2, Tree.olds h.2.2⟩
theorem Olds.keep {M M' : Mem} : ∀ {lv : List (List Nat)} {b : List UInt8}, Olds M lv b → (∀ x ∈ lv.flatten, M' x = M x) → Olds M' lv b
  | [], _, _, _ => trivial
  | _ :: _, _, h, hk => ⟨fun i hi => by rw [hk _ (by rw [List.flatten_cons, List.mem_append]; exact .inl (List.getElem_mem hi))]; exact h.1 i hi, h.2.keep (fun x hx => hk x (by simp only [List.flatten_cons, List.mem_append]; exact .inr hx))⟩
theorem Bears.keep {M M' : Mem} {b : List UInt8} {now : List Nat} (h : Bears M b now) (hk : ∀ x ∈ now, M' x = M x) : Bears M' b now := ⟨h.1, fun i hi => by rw [hk _ (List.getElem_mem hi)]; exact h.2 i hi⟩
theorem Tree.keep {M M' : Mem} : ∀ {lv : List (List Nat)} {b : List UInt8}, Tree M lv b → (∀ x ∈ lv.flatten, M' x = M x) → Tree M' lv b
  | [], _, h, _ => h
  | [_], _, h, hk => ⟨h.1.keep (fun x hx => hk x (by simpa using hx)), h.2⟩
  | _ :: _ :: _, _, h, hk => ⟨h.1.keep (fun x hx => hk x (by simp only [List.flatten_cons, List.mem_append]; exact .inl hx)), h.2.1, Tree.keep h.2.2 (fun x hx => hk x (by rw [List.flatten_cons, List.mem_append]; exact .inr hx))⟩
end Go.Proofs.YtmloljjllmmkoaaGreat.TR

namespace Go.Proofs.YtmloljjllmmkoaaGreat.TR
open Go

theorem rows_next {c X : Nat} (h : c ≤ 60 * X) : cuts (4 * c) ≤ X := by unfold cuts; omega
/-- what a tree that is stored comes to: t blocks are taken -/
structure LvOk (O : List Nat) (olds : List (List Nat)) (b : List UInt8) (ks : List Nat) (M : Mem) (fr : List Nat) (r : LvR) (t : Nat) : Prop where
  le : t ≤ fr.length
  most : t ≤ ks.sum
  free : r.free = fr.drop t
  keep : ∀ x, x ∉ fr.take t → r.mem x = M x
  lens : r.ok = true → r.lv.map List.length = ks
  tree : r.ok = true → ks ≠ [] → Tree r.mem r.lv b
  mem : r.ok = true → ∀ x ∈ r.lv.flatten, x ∈ olds.flatten ∨ x ∈ fr.take t
  nodup : r.ok = true → r.lv.flatten.Nodup
  count : r.ok = true → r.lv.flatten.countP (fun x => decide (x ∈ O)) + t = ks.sum
  full : r.ok = false → t = fr.length ∧ t < ks.sum
theorem take_add_mem {l : List Nat} {a c x : Nat} : x ∈ l.take (a + c) ↔ x ∈ l.take a ∨ x ∈ (l.drop a).take c := by rw [List.take_add, List.mem_append]
section
variable {O : List Nat}
theorem headD_mem {olds : List (List Nat)} {x : Nat} (h : x ∈ olds.headD []) : x ∈ olds.flatten := by
  cases olds with
  | nil => simp at h
  | cons o os => simp only [List.headD_cons] at h; rw [List.flatten_cons, List.mem_append]; exact .inl h
theorem tail_mem {olds : List (List Nat)} {x : Nat} (h : x ∈ olds.tail.flatten) : x ∈ olds.flatten := by
  cases olds with
  | nil => simp at h
  | cons o os => rw [List.flatten_cons, List.mem_append]; exact .inr h
theorem olds_parts {olds : List (List Nat)} (h : olds.flatten.Nodup) : (olds.headD []).Nodup ∧ olds.tail.flatten.Nodup ∧ ∀ x, x ∈ olds.headD [] → x ∉ olds.tail.flatten := by
  cases olds with
  | nil => simp
  | cons o os =>
    rw [List.flatten_cons, List.nodup_append] at h
    exact ⟨h.1, h.2.1, fun x hx hy => h.2.2 x hx x hy rfl⟩
theorem lv_cons (alike : Bool) {k : Nat} {ks : List Nat} {first : Bool} {olds : List (List Nat)} {had b : List UInt8} {M : Mem} {fr : List Nat} {t1 t2 : Nat} (hn : fr.Nodup) (hd : ∀ x ∈ O, x ∉ fr) (ho : ∀ x ∈ olds.flatten, x ∈ O) (hno : olds.flatten.Nodup)
    (hk : k = cuts b.length) (hk1 : ks = [] → k = 1) (hk2 : ks ≠ [] → 1 < k) {r : RowR} (hr : r = storeRow (if first || alike then olds.headD [] else []) had b k 0 M fr) (h1 : RowOk O (if first || alike then olds.headD [] else []) had b k 0 M fr r t1) (hok : r.ok = true)
    {q : LvR} (hq : q = storeLv alike ks false olds.tail (ptrs (olds.headD [])) (ptrs r.now) r.mem r.free) (h2 : LvOk O olds.tail (ptrs r.now) ks r.mem r.free q t2) :
    LvOk O olds b (k :: ks) M fr (storeLv alike (k :: ks) first olds had b M fr) (t1 + t2) := by
  have e : storeLv alike (k :: ks) first olds had b M fr = ⟨q.ok, r.now :: q.lv, q.mem, q.free⟩ := by
    rw [storeLv, ← hr, if_pos hok, ← hq]
  have hp := olds_parts hno
  rw [e]
  have hfr := h1.free
  have hle := h2.le
  have hle1 := h1.le
  rw [hfr, List.length_drop] at hle
  have hkeep2 : ∀ x, x ∉ (fr.drop t1).take t2 → q.mem x = r.mem x := fun x hx => h2.keep x (by rw [hfr]; exact hx)
  have hsub : ∀ x, x ∈ (if first || alike then olds.headD [] else []) → x ∈ olds.headD [] := fun x hx => by
    split at hx
    · exact hx
    · simp at hx
  have hnow : ∀ x ∈ r.now, x ∈ olds.headD [] ∨ x ∈ fr.take t1 := fun x hx => by
    rcases h1.mem hok x hx with m | m
    · rw [List.drop_zero] at m
      exact .inl (hsub x m)
    · exact .inr m
  have hap : ∀ x, x ∈ fr.take t1 → x ∉ fr.drop t1 := fun x hx hy => by
    have := hn
    rw [← List.take_append_drop t1 fr, List.nodup_append] at this
    exact this.2.2 x hx x hy rfl
  have hnl : ∀ x ∈ r.now, x ∉ (fr.drop t1).take t2 := fun x hx hy => by
    have hy' := List.mem_of_mem_take hy
    rcases hnow x hx with m | m
    · exact hd x (ho x (headD_mem m)) (List.mem_of_mem_drop hy')
    · exact hap x m hy'
  have hb : Bears q.mem b r.now := by
    refine ⟨by rw [h1.len hok]; exact hk, fun i hi => ?_⟩
    rw [hkeep2 _ (hnl _ (List.getElem_mem hi))]
    have := h1.bears hok i hi
    rwa [Nat.zero_add] at this
  refine ⟨by omega, ?_, ?_, fun x hx => ?_, fun ho' => ?_, fun ho' _ => ?_, fun ho' x hx => ?_, fun ho' => ?_, fun ho' => ?_, fun ho' => ?_⟩
  · have := h1.most; have := h2.most; simp; omega
  · rw [show (⟨q.ok, r.now :: q.lv, q.mem, q.free⟩ : LvR).free = q.free from rfl, h2.free, hfr, List.drop_drop]
  · rw [take_add_mem, not_or] at hx
    rw [show (⟨q.ok, r.now :: q.lv, q.mem, q.free⟩ : LvR).mem = q.mem from rfl, hkeep2 x hx.2, h1.keep x hx.1]
  · simp only [List.map_cons]
    rw [h1.len hok, h2.lens ho']
  · by_cases hks : ks = []
    · have hl := h2.lens ho'
      rw [hks] at hl
      have hl0 : q.lv = [] := by simpa using hl
      rw [hl0]
      exact ⟨hb, by rw [h1.len hok, hk1 hks]⟩
    · have ht := h2.tree ho' hks
      have hl := h2.lens ho'
      cases hlv : q.lv with
      | nil => rw [hlv] at hl; exact absurd hl.symm hks
      | cons nx rest =>
        rw [hlv] at ht
        exact ⟨hb, by rw [h1.len hok]; exact hk2 hks, ht⟩
  · rw [List.flatten_cons, List.mem_append] at hx
    rcases hx with hx | hx
    · rcases hnow x hx with m | m
      · exact .inl (headD_mem m)
      · exact .inr (take_add_mem.2 (.inl m))
    · rcases h2.mem ho' x hx with m | m
      · exact .inl (tail_mem m)
      · rw [hfr] at m
        exact .inr (take_add_mem.2 (.inr m))
  · rw [List.flatten_cons, List.nodup_append]
    refine ⟨h1.nodup hok, h2.nodup ho', fun x hx y hy e => ?_⟩
    subst e
    rcases h2.mem ho' x hy with m | m
    · rcases hnow x hx with m' | m'
      · exact hp.2.2 x m' m
      · exact hd x (ho x (tail_mem m)) (List.mem_of_mem_take m')
    · rw [hfr] at m
      exact hnl x hx m
  · rw [List.flatten_cons, List.countP_append]
    have c1 := h1.count hok
    have c2 := h2.count ho'
    simp only [List.sum_cons]
    omega
  · have c := h2.full ho'
    have hm := h1.count hok
    rw [hfr, List.length_drop] at c
    have := h1.most
    simp only [List.sum_cons]
    omega
theorem lv_fail (alike : Bool) {k : Nat} {ks : List Nat} {first : Bool} {olds : List (List Nat)} {had b : List UInt8} {M : Mem} {fr : List Nat} {t1 : Nat} {r : RowR} (hr : r = storeRow (if first || alike then olds.headD [] else []) had b k 0 M fr) (h1 : RowOk O (if first || alike then olds.headD [] else []) had b k 0 M fr r t1) (hok : r.ok = false) :
    LvOk O olds b (k :: ks) M fr (storeLv alike (k :: ks) first olds had b M fr) t1 := by
  have e : storeLv alike (k :: ks) first olds had b M fr = ⟨false, [], r.mem, r.free⟩ := by
    rw [storeLv, ← hr, if_neg (by rw [hok]; simp)]
  rw [e]
  have hf := h1.full hok
  refine ⟨h1.le, by simp; omega, h1.free, h1.keep, fun h => (by cases h), fun h => (by cases h), fun h => (by cases h), fun h => (by cases h), fun h => (by cases h), fun _ => ⟨hf.1, by simp; omega⟩⟩
theorem lv_ok (alike : Bool) : ∀ (f : Nat) (first : Bool) (olds : List (List Nat)) (had b : List UInt8) (M : Mem) (fr : List Nat), cuts b.length ≤ 60 ^ f → fr.Nodup → (∀ x ∈ O, x ∉ fr) → (∀ x ∈ olds.flatten, x ∈ O) → olds.flatten.Nodup → Olds M olds had →
    ∃ t, LvOk O olds b (rowsN (f + 1) b.length) M fr (storeLv alike (rowsN (f + 1) b.length) first olds had b M fr) t := by
  intro f
  induction f with
  | zero =>
    intro first olds had b M fr hc hn hd ho hno hOl
    have hc1 : cuts b.length ≤ 1 := by simpa using hc
    by_cases h0 : b.length = 0
    · rw [rowsN, if_pos h0]
      exact ⟨0, by omega, by simp, by simp [storeLv], fun x _ => rfl, fun _ => rfl, fun _ h => absurd rfl h, fun _ x hx => by simp [storeLv] at hx, fun _ => by simp [storeLv], fun _ => by simp [storeLv], fun h => by simp [storeLv] at h⟩
    · have h1 : cuts b.length = 1 := by have := cuts_zero (n := b.length); omega
      rw [rowsN, if_neg h0, if_pos h1]
      have hp := olds_parts hno
      obtain ⟨t1, hr⟩ := row_ok (had := had) (b := b) (old := if first || alike then olds.headD [] else []) O (fun x hx => by
        split at hx
        · exact ho x (headD_mem hx)
        · simp at hx) (by split; exact hp.1; exact List.nodup_nil) 1 0 M fr hn hd (by
        split
        · cases olds with
          | nil => intro i hi; simp at hi
          | cons o os => exact hOl.1
        · intro i hi; simp at hi)
      cases hok : (storeRow (if first || alike then olds.headD [] else []) had b 1 0 M fr).ok with
      | false => exact ⟨t1, lv_fail alike rfl hr hok⟩
      | true => exact ⟨t1 + 0, lv_cons alike hn hd ho hno h1.symm (fun _ => rfl) (fun h => absurd rfl h) rfl hr hok rfl ⟨by omega, by simp, by simp [storeLv], fun x _ => rfl, fun _ => rfl, fun _ h => absurd rfl h, fun _ x hx => by simp [storeLv] at hx, fun _ => by simp [storeLv], fun _ => by simp [storeLv], fun h => by simp [storeLv] at h⟩⟩
  | succ f ih =>
    intro first olds had b M fr hc hn hd ho hno hOl
    by_cases h0 : b.length = 0
    · rw [rowsN, if_pos h0]
      exact ⟨0, by omega, by simp, by simp [storeLv], fun x _ => rfl, fun _ => rfl, fun _ h => absurd rfl h, fun _ x hx => by simp [storeLv] at hx, fun _ => by simp [storeLv], fun _ => by simp [storeLv], fun h => by simp [storeLv] at h⟩
    · have hp := olds_parts hno
      obtain ⟨k, hk⟩ : ∃ k, cuts b.length = k := ⟨_, rfl⟩
      obtain ⟨t1, hr⟩ := row_ok (had := had) (b := b) (old := if first || alike then olds.headD [] else []) O (fun x hx => by
        split at hx
        · exact ho x (headD_mem hx)
        · simp at hx) (by split; exact hp.1; exact List.nodup_nil) k 0 M fr hn hd (by
        split
        · cases olds with
          | nil => intro i hi; simp at hi
          | cons o os => exact hOl.1
        · intro i hi; simp at hi)
      by_cases h1 : k = 1
      · rw [rowsN, if_neg h0, hk, if_pos h1]
        subst h1
        cases hok : (storeRow (if first || alike then olds.headD [] else []) had b 1 0 M fr).ok with
        | false => exact ⟨t1, lv_fail alike rfl hr hok⟩
        | true => exact ⟨t1 + 0, lv_cons alike hn hd ho hno hk.symm (fun _ => rfl) (fun h => absurd rfl h) rfl hr hok rfl ⟨by omega, by simp, by simp [storeLv], fun x _ => rfl, fun _ => rfl, fun _ h => absurd rfl h, fun _ x hx => by simp [storeLv] at hx, fun _ => by simp [storeLv], fun _ => by simp [storeLv], fun h => by simp [storeLv] at h⟩⟩
      · rw [rowsN, if_neg h0, hk, if_neg h1]
        have hk0 : k ≠ 0 := fun e => h0 (cuts_zero.1 (hk.trans e))
        cases hok : (storeRow (if first || alike then olds.headD [] else []) had b k 0 M fr).ok with
        | false => exact ⟨t1, lv_fail alike rfl hr hok⟩
        | true =>
          obtain ⟨r, hrr⟩ : ∃ r, storeRow (if first || alike then olds.headD [] else []) had b k 0 M fr = r := ⟨_, rfl⟩
          rw [hrr] at hr hok
          have hlen := hr.len hok
          have hpl : (ptrs r.now).length = 4 * k := by rw [length_ptrs, hlen]
          have hkl : k ≤ 60 * 60 ^ f := by rw [← hk]; rw [Nat.pow_succ, Nat.mul_comm] at hc; exact hc
          have hfr := hr.free
          obtain ⟨t2, h2⟩ := ih false olds.tail (ptrs (olds.headD [])) (ptrs r.now) r.mem r.free (by rw [hpl]; exact rows_next hkl) (by rw [hfr]; exact hn.sublist (List.drop_sublist _ _)) (fun x hx hy => hd x hx (by rw [hfr] at hy; exact List.mem_of_mem_drop hy)) (fun x hx => ho x (tail_mem hx)) hp.2.1 (by
            cases olds with
            | nil => exact trivial
            | cons o os =>
              refine Olds.keep hOl.2 (fun x hx => hr.keep x (fun hy => ?_))
              exact hd x (ho x (by rw [List.flatten_cons, List.mem_append]; exact .inr hx)) (List.mem_of_mem_take hy))
          rw [hpl] at h2
          have hne : rowsN (f + 1) (4 * k) ≠ [] := by
            rw [rowsN, if_neg (by omega)]
            split <;> simp
          exact ⟨t1 + t2, lv_cons alike hn hd ho hno hk.symm (fun h => absurd h hne) (fun _ => by omega) hrr.symm hr hok rfl h2⟩
/-- a tree of at most so many bytes is stored -/
theorem store_ok (alike : Bool) (olds : List (List Nat)) (had b : List UInt8) (M : Mem) (fr : List Nat) (hb : b.length ≤ 16384) (hn : fr.Nodup) (hd : ∀ x ∈ olds.flatten, x ∉ fr) (hno : olds.flatten.Nodup) (ht : Tree M olds had) :
    ∃ t, LvOk olds.flatten olds b (rowsL b.length) M fr (storeLv alike (rowsL b.length) true olds had b M fr) t :=
  lv_ok alike 3 true olds had b M fr (by unfold cuts; omega) hn hd (fun _ h => h) hno ht.olds
theorem rowsL_nil {n : Nat} : rowsL n = [] ↔ n = 0 := by
  unfold rowsL
  rw [rowsN]
  by_cases h : n = 0
  · simp [h]
  · rw [if_neg h]
    constructor
    · intro e; split at e <;> simp at e
    · intro e; exact absurd e h
theorem LvOk.isTree {olds : List (List Nat)} {b : List UInt8} {M : Mem} {fr : List Nat} {r : LvR} {t : Nat} (h : LvOk O olds b (rowsL b.length) M fr r t) (hok : r.ok = true) : Tree r.mem r.lv b := by
  by_cases h0 : rowsL b.length = []
  · have hl := h.lens hok
    rw [h0] at hl
    have hl0 : r.lv = [] := by simpa using hl
    rw [hl0]
    exact List.eq_nil_of_length_eq_zero (rowsL_nil.1 h0)
  · exact h.tree hok h0
/-- the rows of a tree are as many as its bytes ask -/
theorem tree_rows {M : Mem} : ∀ (f : Nat) {lv : List (List Nat)} {b : List UInt8}, Tree M lv b → cuts b.length ≤ 60 ^ f → lv.map List.length = rowsN (f + 1) b.length
  | f, [], b, h, _ => by
    have : b = [] := h
    subst this
    simp [rowsN]
  | f, [now], b, h, _ => by
    have h1 := h.1.1
    rw [h.2] at h1
    have h0 : b.length ≠ 0 := fun e => by rw [e] at h1; simp [cuts] at h1
    rw [rowsN, if_neg h0, if_pos h1.symm]
    simp [h.2]
  | 0, now :: nx :: rest, b, h, hc => by
    have h1 := h.1.1
    have h2 := h.2.1
    simp at hc
    omega
  | f + 1, now :: nx :: rest, b, h, hc => by
    have h1 := h.1.1
    have h2 := h.2.1
    have h0 : b.length ≠ 0 := fun e => by rw [e, show cuts 0 = 0 from rfl] at h1; omega
    have hkl : now.length ≤ 60 * 60 ^ f := by rw [h1]; rw [Nat.pow_succ, Nat.mul_comm] at hc; exact hc
    rw [rowsN, if_neg h0, if_neg (by omega), List.map_cons, tree_rows f h.2.2 (by rw [length_ptrs]; exact rows_next hkl), length_ptrs, h1]
/-- the same bytes are all shared -/
theorem store_same {M : Mem} : ∀ (f : Nat) (first : Bool) {lv : List (List Nat)} {b : List UInt8} (fr : List Nat), Tree M lv b → cuts b.length ≤ 60 ^ f → storeLv true (rowsN (f + 1) b.length) first lv b b M fr = ⟨true, lv, M, fr⟩ := by
  intro f
  induction f with
  | zero =>
    intro first lv b fr h hc
    rw [← tree_rows 0 h hc]
    match lv, h with
    | [], _ => rfl
    | [now], h =>
      simp only [List.map_cons, List.map_nil, storeLv, Bool.or_true, if_true, List.headD_cons]
      rw [row_same now.length 0 M fr (fun j hj => ⟨by omega, rfl⟩)]
      simp
    | now :: nx :: rest, h =>
      have h1 := h.1.1
      have h2 := h.2.1
      simp at hc
      omega
  | succ f ih =>
    intro first lv b fr h hc
    match lv, h with
    | [], h =>
      have : b = [] := h
      subst this
      simp [rowsN, storeLv]
    | [now], h =>
      rw [← tree_rows (f + 1) h hc]
      simp only [List.map_cons, List.map_nil, storeLv, Bool.or_true, if_true, List.headD_cons]
      rw [row_same now.length 0 M fr (fun j hj => ⟨by omega, rfl⟩)]
      simp
    | now :: nx :: rest, h =>
      have h1 := h.1.1
      have h2 := h.2.1
      have h0 : b.length ≠ 0 := fun e => by rw [e, show cuts 0 = 0 from rfl] at h1; omega
      have hkl : now.length ≤ 60 * 60 ^ f := by rw [h1]; rw [Nat.pow_succ, Nat.mul_comm] at hc; exact hc
      rw [rowsN, if_neg h0, if_neg (by omega), ← h1, storeLv]
      simp only [Bool.or_true, if_true, List.headD_cons]
      rw [row_same now.length 0 M fr (fun j hj => ⟨by omega, rfl⟩)]
      simp only [List.drop_zero, List.take_length, if_true, List.tail_cons]
      have := ih false (lv := nx :: rest) (b := ptrs now) fr h.2.2 (by rw [length_ptrs]; exact rows_next hkl)
      rw [length_ptrs] at this
      rw [this]
end
end Go.Proofs.YtmloljjllmmkoaaGreat.TR

namespace Go.Proofs.YtmloljjllmmkoaaGreat
open Go
open TR (Mem memput memput_same memput_other)

/-- W: the blocks that were written -/
structure CalmV (x : VS) (N : Nat) (M : Mem) (W : Nat → Prop) : Prop where
  sound : Sound x
  arm : x.disk.armed = 0
  len : x.disk.stay.length = 4 * N
  says : ∀ k, 1 ≤ k → k < N → W k → (M k).length ≤ 240 ∧ Lies x.disk k (frameL (M k))
section
variable {x : VS} {N : Nat} {M : Mem} {W : Nat → Prop}
theorem CalmV.has (h : CalmV x N M W) {k : Nat} (h1 : 1 ≤ k) (h2 : k < N) : x.has (k : Int) = true := by
  rw [has_is]
  have : blkN x.disk = N := by unfold blkN; rw [h.len]; omega
  omega
theorem CalmV.read_any (h : CalmV x N M W) (v : Int) : CalmV (x.read v).2.2 N M W := by
  obtain ⟨a, b, c, d⟩ := h.sound.read_any v
  exact ⟨a, by rw [b]; exact h.arm, by rw [b]; exact h.len, by rw [b]; exact h.says⟩
theorem CalmV.read (h : CalmV x N M W) {k : Nat} (h1 : 1 ≤ k) (h2 : k < N) (hw : W k) : (x.read (k : Int)).1 = 0 ∧ (x.read (k : Int)).2.1 = bsL (M k) ∧ CalmV (x.read (k : Int)).2.2 N M W := by
  obtain ⟨g1, g2⟩ := h.says k h1 h2 hw
  have hs : (bsL (M k)).size ≤ 240 := by rw [size_bsL]; exact g1
  obtain ⟨e1, e2, _⟩ := h.sound.read (h.has h1 h2) hs (by rw [Int.toNat_natCast]; simpa [bsL] using g2)
  exact ⟨e1, e2, h.read_any _⟩
theorem CalmV.write (h : CalmV x N M W) {k : Nat} (h1 : 1 ≤ k) (h2 : k < N) {p : ByteArray} (hp : p.size ≤ 240) : (x.write (k : Int) p).1 = 0 ∧ CalmV (x.write (k : Int) p).2 N (memput M k p.data.toList) (fun j => j = k ∨ W j) := by
  have hh := h.has h1 h2
  obtain ⟨c1, c2⟩ := h.sound.write_calm h.arm hh hp
  rcases h.sound.write hh hp with ⟨_, a, b, c, d, e, f⟩ | ⟨e, _⟩
  · rw [Int.toNat_natCast] at e f
    refine ⟨c1, a, c2, by rw [d]; exact h.len, fun j j1 j2 hw => ?_⟩
    by_cases ej : j = k
    · subst ej
      rw [memput_same]
      exact ⟨by rw [len_of]; exact hp, e⟩
    · rw [memput_other _ _ ej]
      obtain ⟨g1, g2⟩ := h.says j j1 j2 (by rcases hw with hw | hw; exact absurd hw ej; exact hw)
      refine ⟨g1, fun i hi => ?_⟩
      rw [f (4 * j + i) (fun t ht => by omega)]
      exact g2 i hi
  · rw [c1] at e; cases e
theorem CalmV.weaken {W' : Nat → Prop} (h : CalmV x N M W) (hw : ∀ k, W' k → W k) : CalmV x N M W' := ⟨h.sound, h.arm, h.len, fun k h1 h2 h3 => h.says k h1 h2 (hw k h3)⟩
end
/-- a volume that was just laid -/
theorem calm_new {N : Nat} (h1 : 8 ≤ N) (h2 : N ≤ 4096) (M : Mem) : vformE (fresh (blank (4 * N))) none0 = 0 ∧ CalmV (vformX (fresh (blank (4 * N))) none0) N M (fun _ => False) := by
  obtain ⟨a, b, c, d, _⟩ := format_blank (n := 4 * N) (by omega) (by omega) (t := none0) (by decide)
  exact ⟨a, b, c, d, fun k _ _ h => h.elim⟩
end Go.Proofs.YtmloljjllmmkoaaGreat

namespace Go.Proofs.YtmloljjllmmkoaaGreat.TR
open Go

/-- a reading: the blocks so far, the bytes so far, the error, the volume -/
structure TS where
  order : List Int
  data : List UInt8
  e : Int
  x : VS
/-- the pointer at a place of a payload -/
def ptrAt (p : ByteArray) (i : Nat) : Int := (valN ((p.data.toList.drop (4 * i)).take 4) : Nat)
/-- how many pointers a block of the level above this row has, at a place -/
def manyN (n a : Nat) : Nat := min 60 (n - 60 * a)
def rdNode (size : Nat) (rows : List Nat) (chunks : Bool) : Nat → TS → Int → Nat → TS
  | 0, t, num, a =>
    if t.e ≠ 0 then t else if chunks = false then { t with order := t.order ++ [num] } else
    if (t.x.read num).1 ≠ 0 then ⟨t.order ++ [num], t.data, (t.x.read num).1, (t.x.read num).2.2⟩ else
    if (t.x.read num).2.1.size ≠ min 240 (size - 240 * a) then ⟨t.order ++ [num], t.data, 110, (t.x.read num).2.2⟩ else ⟨t.order ++ [num], t.data ++ (t.x.read num).2.1.data.toList, 0, (t.x.read num).2.2⟩
  | l + 1, t, num, a =>
    if t.e ≠ 0 then t else
    if (t.x.read num).1 ≠ 0 then ⟨t.order ++ [num], t.data, (t.x.read num).1, (t.x.read num).2.2⟩ else
    if (t.x.read num).2.1.size ≠ 4 * manyN (rows.getD l 0) a then ⟨t.order ++ [num], t.data, 110, (t.x.read num).2.2⟩ else
      (List.range (manyN (rows.getD l 0) a)).foldl (fun u i => rdNode size rows chunks l u (ptrAt (t.x.read num).2.1 i) (60 * a + i)) ⟨t.order ++ [num], t.data, 0, (t.x.read num).2.2⟩
/-- a blob's tree is read: the root's number, how many bytes -/
def rdBlob (x : VS) (root size : Int) (chunks : Bool) : TS :=
  if size < 0 ∨ 16384 < size ∨ decide (root = 0) ≠ decide (size = 0) then ⟨[], [], 110, x⟩ else
  if size = 0 then ⟨[], [], 0, x⟩ else rdNode size.toNat (rowsL size.toNat) chunks ((rowsL size.toNat).length - 1) ⟨[], [], 0, x⟩ root 0

/-- the blocks below a node, in order -/
def orderN (lv : List (List Nat)) : Nat → Nat → List Nat
  | 0, a => [(lv.getD 0 []).getD a 0]
  | l + 1, a => (lv.getD (l + 1) []).getD a 0 :: (List.range (manyN (lv.getD l []).length a)).flatMap (fun i => orderN lv l (60 * a + i))
/-- the bytes below a node -/
def dataN (b : List UInt8) (l a : Nat) : List UInt8 := (b.drop (240 * 60 ^ l * a)).take (240 * 60 ^ l)
theorem dataN_zero (b : List UInt8) (a : Nat) : dataN b 0 a = part b a := by simp [dataN, part]
theorem range_cat (b : List UInt8) (s m : Nat) : ∀ k, (List.range k).flatMap (fun i => (b.drop (m + s * i)).take s) = (b.drop m).take (s * k)
  | 0 => by simp
  | k + 1 => by
    rw [List.range_succ, List.flatMap_append, range_cat b s m k, Nat.mul_succ, List.take_add, List.drop_drop]
    simp
/-- the bytes below a node are those below its pointers; n: how many there are in the row below -/
theorem dataN_succ (b : List UInt8) (l a n : Nat) (hn : b.length ≤ 240 * 60 ^ l * n) : (List.range (manyN n a)).flatMap (fun i => dataN b l (60 * a + i)) = dataN b (l + 1) a := by
  have e : (fun i => dataN b l (60 * a + i)) = fun i => (b.drop (240 * 60 ^ l * (60 * a) + 240 * 60 ^ l * i)).take (240 * 60 ^ l) := by
    funext i
    rw [dataN, Nat.mul_add]
  rw [e, range_cat, dataN]
  have h1 : 240 * 60 ^ (l + 1) * a = 240 * 60 ^ l * (60 * a) := by rw [Nat.pow_succ]; simp only [Nat.mul_assoc]
  rw [h1]
  have h2 : 240 * 60 ^ (l + 1) = 240 * 60 ^ l * 60 := by rw [Nat.pow_succ, Nat.mul_assoc]
  rw [h2]
  unfold manyN
  rcases Nat.le_total 60 (n - 60 * a) with h | h
  · rw [Nat.min_eq_left h]
  · rw [Nat.min_eq_right h]
    have hl : (b.drop (240 * 60 ^ l * (60 * a))).length ≤ 240 * 60 ^ l * (n - 60 * a) := by
      rw [List.length_drop, Nat.mul_sub]
      omega
    rw [List.take_of_length_le hl, List.take_of_length_le (Nat.le_trans hl (Nat.mul_le_mul_left _ h))]

/-- each level of a tree bears what it must; so many bytes are below it -/
structure LvAt (M : Mem) (b : List UInt8) (lv : List (List Nat)) (l : Nat) : Prop where
  chunk : l = 0 → Bears M b (lv.getD 0 [])
  point : ∀ k, l = k + 1 → Bears M (ptrs (lv.getD k [])) (lv.getD (k + 1) [])
theorem tree_at {M : Mem} : ∀ {lv : List (List Nat)} {b : List UInt8}, Tree M lv b → ∀ l, l < lv.length → LvAt M b lv l
  | [now], b, h, 0, _ => ⟨fun _ => h.1, fun k e => by omega⟩
  | [_], _, _, l + 1, hl => by simp at hl
  | now :: nx :: rest, b, h, 0, _ => ⟨fun _ => h.1, fun k e => by omega⟩
  | now :: nx :: rest, b, h, l + 1, hl => by
    have ih := tree_at h.2.2 l (by simpa using hl)
    refine ⟨fun e => by omega, fun k e => ?_⟩
    obtain rfl : l = k := by omega
    cases l with
    | zero => exact ih.chunk rfl
    | succ l => exact ih.point l rfl
theorem bears_le {M : Mem} {b : List UInt8} {now : List Nat} (h : Bears M b now) : b.length ≤ 240 * now.length := by
  rw [h.1]; unfold cuts; omega
/-- so many bytes are below a level -/
theorem tree_bytes {M : Mem} {lv : List (List Nat)} {b : List UInt8} (h : Tree M lv b) : ∀ l, l < lv.length → b.length ≤ 240 * 60 ^ l * (lv.getD l []).length
  | 0, hl => by simpa using bears_le ((tree_at h 0 hl).chunk rfl)
  | l + 1, hl => by
    have h1 := tree_bytes h l (by omega)
    have h2 := bears_le ((tree_at h (l + 1) hl).point l rfl)
    rw [length_ptrs] at h2
    have h3 : (lv.getD l []).length ≤ 60 * (lv.getD (l + 1) []).length := by omega
    refine Nat.le_trans h1 ?_
    rw [Nat.pow_succ, show 240 * (60 ^ l * 60) * (lv.getD (l + 1) []).length = 240 * 60 ^ l * (60 * (lv.getD (l + 1) []).length) by simp only [Nat.mul_assoc]]
    exact Nat.mul_le_mul_left _ h3
theorem ptr_at (L : List Nat) (i : Nat) (hi : i < L.length) (hb : ∀ x ∈ L, x < 4294967296) : ptrAt (bsL (ptrs L)) i = (L[i] : Nat) := by
  unfold ptrAt
  have e : (bsL (ptrs L)).data.toList = ptrs L := by simp [bsL]
  rw [e, ptrs_drop, show (4 : Nat) = 4 * 1 by rfl, ptrs_take, List.drop_eq_getElem_cons hi]
  simp only [List.take_succ_cons, List.take_zero, ptrs, List.append_nil]
  rw [val_leN 4 _ (hb _ (List.getElem_mem hi))]
theorem getD_at {α : Type} (L : List α) (i : Nat) (d : α) (h : i < L.length) : L.getD i d = L[i] := by rw [List.getD_eq_getElem?_getD, List.getElem?_eq_getElem h]; rfl
theorem getD_mem {α : Type} (L : List α) (i : Nat) (d : α) (h : i < L.length) : L.getD i d ∈ L := by rw [getD_at L i d h]; exact List.getElem_mem h
section
variable {N : Nat} {M : Mem} {W : Nat → Prop} {lv : List (List Nat)} {b : List UInt8}
/-- on a calm volume a tree's node tells its blocks and its bytes -/
theorem rd_calm (h : Tree M lv b) (hN : N ≤ 4294967296) (hr : ∀ x ∈ lv.flatten, 1 ≤ x ∧ x < N ∧ W x) (rows : List Nat) (hrows : rows = lv.map List.length) (chunks : Bool) :
    ∀ (l : Nat) (_ : l < lv.length) (a : Nat) (_ : a < (lv.getD l []).length) (t : TS), t.e = 0 → CalmV t.x N M W →
      ∃ x', rdNode b.length rows chunks l t (((lv.getD l []).getD a 0 : Nat)) a = ⟨t.order ++ (orderN lv l a).map (fun n : Nat => (n : Int)), t.data ++ (if chunks then dataN b l a else []), 0, x'⟩ ∧ CalmV x' N M W := by
  have hmem : ∀ l (_ : l < lv.length) a (ha : a < (lv.getD l []).length), (lv.getD l []).getD a 0 ∈ lv.flatten := fun l hl a ha => by
    rw [List.mem_flatten]
    exact ⟨lv.getD l [], getD_mem lv l [] hl, getD_mem _ a 0 ha⟩
  have hget : ∀ l a (ha : a < (lv.getD l []).length), (lv.getD l []).getD a 0 = (lv.getD l [])[a] := fun l a ha => getD_at _ a 0 ha
  intro l
  induction l with
  | zero =>
    intro hl a ha t he hc
    obtain ⟨r1, r2, r3⟩ := hr _ (hmem 0 hl a ha)
    have hB := (tree_at h 0 hl).chunk rfl
    have hM := hB.2 a ha
    rw [← hget 0 a ha] at hM
    unfold rdNode
    rw [if_neg (by rw [he]; simp)]
    cases chunks with
    | false =>
      rw [if_pos rfl]
      exact ⟨t.x, by simp [orderN, he], hc⟩
    | true =>
      obtain ⟨e1, e2, e3⟩ := hc.read r1 r2 r3
      rw [if_neg (by simp), if_neg (by rw [e1]; simp), e2, hM]
      have hsz : (bsL (part b a)).size = min 240 (b.length - 240 * a) := by rw [size_bsL, length_part]
      rw [if_neg (by rw [hsz]; simp)]
      refine ⟨_, ?_, e3⟩
      simp only [orderN, List.map_cons, List.map_nil, if_true, dataN_zero]
      simp [bsL]
  | succ l ih =>
    intro hl a ha t he hc
    obtain ⟨r1, r2, r3⟩ := hr _ (hmem (l + 1) hl a ha)
    have hB := (tree_at h (l + 1) hl).point l rfl
    have hM := hB.2 a ha
    rw [← hget (l + 1) a ha, ptrs_part] at hM
    obtain ⟨e1, e2, e3⟩ := hc.read r1 r2 r3
    have hrl : rows.getD l 0 = (lv.getD l []).length := by
      rw [hrows, List.getD_eq_getElem?_getD, List.getElem?_map, getD_at lv l [] (by omega), List.getElem?_eq_getElem (show l < lv.length by omega)]
      rfl
    obtain ⟨L, hL⟩ : ∃ L, ((lv.getD l []).drop (60 * a)).take 60 = L := ⟨_, rfl⟩
    have hLl : L.length = manyN (lv.getD l []).length a := by rw [← hL, List.length_take, List.length_drop]; rfl
    have hLb : ∀ x ∈ L, x < 4294967296 := fun x hx => by
      have hx2 : x ∈ lv.getD l [] := by rw [← hL] at hx; exact List.mem_of_mem_drop (List.mem_of_mem_take hx)
      have := (hr x (by
        rw [List.mem_flatten]
        exact ⟨lv.getD l [], getD_mem lv l [] (by omega), hx2⟩)).2.1
      omega
    rw [hL] at hM
    unfold rdNode
    rw [if_neg (by rw [he]; simp), if_neg (by rw [e1]; simp), e2, hM, hrl]
    have hsz : (bsL (ptrs L)).size = 4 * manyN (lv.getD l []).length a := by rw [size_bsL, length_ptrs, hLl]
    rw [if_neg (by rw [hsz]; simp)]
    have hfold : ∀ k, k ≤ manyN (lv.getD l []).length a → ∃ x', (List.range k).foldl (fun u i => rdNode b.length rows chunks l u (ptrAt (bsL (ptrs L)) i) (60 * a + i)) ⟨t.order ++ [(((lv.getD (l + 1) []).getD a 0 : Nat) : Int)], t.data, 0, (t.x.read (((lv.getD (l + 1) []).getD a 0 : Nat) : Int)).2.2⟩ =
        ⟨t.order ++ [(((lv.getD (l + 1) []).getD a 0 : Nat) : Int)] ++ ((List.range k).flatMap (fun i => orderN lv l (60 * a + i))).map (fun n : Nat => (n : Int)), t.data ++ (if chunks then (List.range k).flatMap (fun i => dataN b l (60 * a + i)) else []), 0, x'⟩ ∧ CalmV x' N M W := by
      intro k
      induction k with
      | zero => intro _; exact ⟨_, by simp, e3⟩
      | succ k ihk =>
        intro hk
        obtain ⟨x1, f1, f2⟩ := ihk (by omega)
        rw [List.range_succ, List.foldl_append, f1]
        simp only [List.foldl_cons, List.foldl_nil]
        have hkL : k < L.length := by rw [hLl]; omega
        have hka : 60 * a + k < (lv.getD l []).length := by unfold manyN at hk; omega
        have hLk : L[k] = (lv.getD l []).getD (60 * a + k) 0 := by
          rw [hget l _ hka]
          simp only [← hL, List.getElem_take, List.getElem_drop]
        rw [ptr_at L k hkL hLb, hLk]
        obtain ⟨x2, g1, g2⟩ := ih (by omega) (60 * a + k) hka ⟨t.order ++ [(((lv.getD (l + 1) []).getD a 0 : Nat) : Int)] ++ ((List.range k).flatMap (fun i => orderN lv l (60 * a + i))).map (fun n : Nat => (n : Int)), t.data ++ (if chunks then (List.range k).flatMap (fun i => dataN b l (60 * a + i)) else []), 0, x1⟩ rfl f2
        refine ⟨x2, ?_, g2⟩
        rw [g1]
        congr 1
        · simp [List.flatMap_append]
        · cases chunks <;> simp [List.flatMap_append]
    obtain ⟨x', f1, f2⟩ := hfold _ (Nat.le_refl _)
    refine ⟨x', ?_, f2⟩
    rw [f1]
    congr 1
    · simp [orderN]
    · cases chunks with
      | false => simp
      | true => simp only [if_true]; rw [dataN_succ b l a _ (tree_bytes h l (by omega))]
end
end Go.Proofs.YtmloljjllmmkoaaGreat.TR

namespace Go.Proofs.YtmloljjllmmkoaaGreat.TR
open Go

def rootOf (lv : List (List Nat)) : Nat := (lv.getD (lv.length - 1) []).getD 0 0
def orderT (lv : List (List Nat)) : List Nat := if lv = [] then [] else orderN lv (lv.length - 1) 0
theorem tree_nil {M : Mem} {lv : List (List Nat)} (h : Tree M lv []) : lv = [] := by
  match lv, h with
  | [], _ => rfl
  | [now], h => have h1 := h.1.1; rw [h.2] at h1; simp [cuts] at h1
  | now :: nx :: rest, h => have h1 := h.1.1; have h2 := h.2.1; simp only [List.length_nil, show cuts 0 = 0 from rfl] at h1; omega
theorem tree_ne {M : Mem} {lv : List (List Nat)} {b : List UInt8} (h : Tree M lv b) (hb : b ≠ []) : lv ≠ [] := by
  rintro rfl
  exact hb h
theorem tree_last {M : Mem} : ∀ {lv : List (List Nat)} {b : List UInt8}, Tree M lv b → lv ≠ [] → (lv.getD (lv.length - 1) []).length = 1
  | [], _, _, h => absurd rfl h
  | [now], _, h, _ => h.2
  | now :: nx :: rest, b, h, _ => by
    have := tree_last h.2.2 (by simp)
    simpa using this
theorem tree_pos {M : Mem} : ∀ {lv : List (List Nat)} {b : List UInt8}, Tree M lv b → ∀ l, l < lv.length → 1 ≤ (lv.getD l []).length
  | [now], _, h, 0, _ => by have := h.2; simp; omega
  | [_], _, _, l + 1, hl => by simp at hl
  | now :: nx :: rest, b, h, 0, _ => by have := h.2.1; simp; omega
  | now :: nx :: rest, b, h, l + 1, hl => by
    have := tree_pos h.2.2 l (by simpa using hl)
    simpa using this
section
variable {N : Nat} {M : Mem} {W : Nat → Prop} {lv : List (List Nat)} {b : List UInt8}
theorem root_mem (h : Tree M lv b) (hne : lv ≠ []) : rootOf lv ∈ lv.flatten := by
  rw [List.mem_flatten]
  have hl : lv.length - 1 < lv.length := by have := List.length_pos_iff.2 hne; omega
  exact ⟨_, getD_mem lv _ [] hl, getD_mem _ 0 0 (by rw [tree_last h hne]; omega)⟩
/-- a blob's tree on a calm volume -/
theorem rdBlob_tree (h : Tree M lv b) (hb : b.length ≤ 16384) (hN : N ≤ 4294967296) (hr : ∀ x ∈ lv.flatten, 1 ≤ x ∧ x < N ∧ W x) (chunks : Bool) {x : VS} (hc : CalmV x N M W) :
    ∃ x', rdBlob x (rootOf lv : Nat) (b.length : Nat) chunks = ⟨(orderT lv).map (fun n : Nat => (n : Int)), if chunks then b else [], 0, x'⟩ ∧ CalmV x' N M W := by
  by_cases h0 : b = []
  · subst h0
    obtain rfl := tree_nil h
    refine ⟨x, ?_, hc⟩
    simp [rdBlob, rootOf, orderT]
  · have hne := tree_ne h h0
    have hl : lv.length - 1 < lv.length := by have := List.length_pos_iff.2 hne; omega
    have hlen : b.length ≠ 0 := fun e => h0 (List.eq_nil_of_length_eq_zero e)
    have hroot := hr _ (root_mem h hne)
    have hrows : rowsL b.length = lv.map List.length := (tree_rows 3 h (by unfold cuts; omega)).symm
    obtain ⟨x', e, hc'⟩ := rd_calm h hN hr (rowsL b.length) hrows chunks (lv.length - 1) hl 0 (by rw [tree_last h hne]; omega) ⟨[], [], 0, x⟩ rfl hc
    refine ⟨x', ?_, hc'⟩
    have h1 : ¬ (((b.length : Nat) : Int) < 0 ∨ 16384 < ((b.length : Nat) : Int) ∨ decide (((rootOf lv : Nat) : Int) = 0) ≠ decide (((b.length : Nat) : Int) = 0)) := by
      rintro (e | e | e)
      · omega
      · omega
      · refine e ?_
        rw [decide_eq_false (by omega), decide_eq_false (by omega)]
    unfold rdBlob
    rw [if_neg h1, if_neg (by omega), Int.toNat_natCast, show (rowsL b.length).length - 1 = lv.length - 1 by rw [hrows, List.length_map]]
    rw [show ((rootOf lv : Nat) : Int) = (((lv.getD (lv.length - 1) []).getD 0 0 : Nat) : Int) from rfl, e]
    have hd : dataN b (lv.length - 1) 0 = b := by
      unfold dataN
      rw [Nat.mul_zero, List.drop_zero]
      refine List.take_of_length_le ?_
      have := tree_bytes h (lv.length - 1) hl
      rwa [tree_last h hne, Nat.mul_one] at this
    rw [hd]
    simp [orderT, hne]
end
/-! ### The blocks in order -/
theorem flatMap_cons_perm {α β : Type} (f : α → β) (g : α → List β) : ∀ l : List α, (l.flatMap fun a => f a :: g a).Perm (l.map f ++ l.flatMap g)
  | [] => by simp
  | a :: l => by
    simp only [List.flatMap_cons, List.map_cons, List.cons_append]
    refine List.Perm.cons _ ?_
    refine ((flatMap_cons_perm f g l).append_left (g a)).trans ?_
    rw [← List.append_assoc, ← List.append_assoc]
    exact List.Perm.append_right _ List.perm_append_comm
theorem flatMap_one {α β : Type} (f : α → β) : ∀ l : List α, (l.flatMap fun a => [f a]) = l.map f
  | [] => rfl
  | a :: l => by rw [List.flatMap_cons, flatMap_one f l, List.map_cons]; rfl
theorem range_plus (a c : Nat) : List.range (a + c) = List.range a ++ (List.range c).map (a + ·) := by
  induction c with
  | zero => simp
  | succ c ih => rw [← Nat.add_assoc, List.range_succ, ih, List.range_succ, List.map_append, List.append_assoc]; rfl
theorem rows_cat {β : Type} (F : Nat → List β) (n : Nat) : ∀ k, ((List.range k).flatMap fun a => (List.range (manyN n a)).flatMap fun i => F (60 * a + i)) = (List.range (min n (60 * k))).flatMap F
  | 0 => by simp
  | k + 1 => by
    rw [List.range_succ, List.flatMap_append, rows_cat F n k, show min n (60 * (k + 1)) = min n (60 * k) + manyN n k by unfold manyN; omega, range_plus, List.flatMap_append]
    congr 1
    simp only [List.flatMap_cons, List.flatMap_nil, List.append_nil, List.flatMap_map]
    rcases Nat.le_total (60 * k) n with h | h
    · rw [Nat.min_eq_right h]
    · have : manyN n k = 0 := by unfold manyN; omega
      rw [this]; rfl
theorem row_map (L : List Nat) : (List.range L.length).map (fun a => L.getD a 0) = L := by
  apply List.ext_getElem
  · simp
  · intro i h1 h2
    simp only [List.getElem_map, List.getElem_range]
    exact getD_at L i 0 h2
theorem take_getD (lv : List (List Nat)) (l : Nat) (h : l < lv.length) : (lv.take (l + 1)).flatten = (lv.take l).flatten ++ lv.getD l [] := by
  rw [List.take_succ_eq_append_getElem h, List.flatten_append, getD_at lv l [] h]
  simp
theorem order_perm {M : Mem} {lv : List (List Nat)} {b : List UInt8} (h : Tree M lv b) : ∀ l, l < lv.length → ((List.range (lv.getD l []).length).flatMap (orderN lv l)).Perm (lv.take (l + 1)).flatten
  | 0, hl => by
    have e : (fun a => orderN lv 0 a) = fun a => [(lv.getD 0 []).getD a 0] := rfl
    rw [show orderN lv 0 = fun a => [(lv.getD 0 []).getD a 0] from e, take_getD lv 0 hl]
    simp only [List.take_zero, List.flatten_nil, List.nil_append]
    rw [flatMap_one, row_map]
  | l + 1, hl => by
    have hp := (tree_at h (l + 1) hl).point l rfl
    have hn := hp.1
    rw [length_ptrs] at hn
    rw [show orderN lv (l + 1) = fun a => (lv.getD (l + 1) []).getD a 0 :: (List.range (manyN (lv.getD l []).length a)).flatMap (fun i => orderN lv l (60 * a + i)) from rfl]
    refine (flatMap_cons_perm _ _ _).trans ?_
    rw [row_map, rows_cat (orderN lv l), show min (lv.getD l []).length (60 * (lv.getD (l + 1) []).length) = (lv.getD l []).length by rw [hn]; unfold cuts; omega, take_getD lv (l + 1) hl]
    exact (List.Perm.append_left _ (order_perm h l (by omega))).trans List.perm_append_comm
theorem orderT_perm {M : Mem} {lv : List (List Nat)} {b : List UInt8} (h : Tree M lv b) : (orderT lv).Perm lv.flatten := by
  unfold orderT
  by_cases hne : lv = []
  · subst hne; simp
  · rw [if_neg hne]
    have hl : lv.length - 1 < lv.length := by have := List.length_pos_iff.2 hne; omega
    have hp := order_perm h (lv.length - 1) hl
    rw [tree_last h hne, show lv.length - 1 + 1 = lv.length by omega, List.take_length] at hp
    simpa using hp
theorem orderT_head {lv : List (List Nat)} (hne : lv ≠ []) : (orderT lv).head? = some (rootOf lv) := by
  unfold orderT rootOf
  rw [if_neg hne]
  cases h : lv.length - 1 with
  | zero => rfl
  | succ l => rfl
theorem flatten_len (lv : List (List Nat)) : lv.flatten.length = (lv.map List.length).sum := by simp [List.length_flatten]
end Go.Proofs.YtmloljjllmmkoaaGreat.TR

namespace Go.Proofs.YtmloljjllmmkoaaGreat.TR
open Go

abbrev Vis := List (Nat × Int × ByteArray)
structure RT where
  e : Int
  vis : Vis
  x : VS
def RT.and (r q : RT) : RT := ⟨q.e, r.vis ++ q.vis, q.x⟩
/-- steps one behind the other, up to the first error -/
def loopN (step : Nat → VS → RT) : Nat → Nat → VS → RT
  | 0, _, x => ⟨0, [], x⟩
  | k + 1, i, x => if (step i x).e = 0 then (step i x).and (loopN step k (i + 1) (step i x).x) else ⟨(step i x).e, [], (step i x).x⟩
theorem loopN_go {step : Nat → VS → RT} {k i : Nat} {x : VS} (h : (step i x).e = 0) : loopN step (k + 1) i x = (step i x).and (loopN step k (i + 1) (step i x).x) := by rw [loopN, if_pos h]
theorem loopN_stop {step : Nat → VS → RT} {k i : Nat} {x : VS} (h : (step i x).e ≠ 0) : loopN step (k + 1) i x = ⟨(step i x).e, [], (step i x).x⟩ := by rw [loopN, if_neg h]
/-- how many bytes are below a block of a row, at most; how many parts -/
def sp (l : Nat) : Nat := 240 * 60 ^ l
def pcs (n each : Nat) : Nat := (n + each - 1) / each
/-- a block that is read, of so many bytes -/
def rdOne (x : VS) (v : Int) (row n : Nat) : RT :=
  if (x.read v).1 ≠ 0 then ⟨(x.read v).1, [], (x.read v).2.2⟩ else if (x.read v).2.1.size ≠ n then ⟨110, [], (x.read v).2.2⟩ else ⟨0, [(row, v, (x.read v).2.1)], (x.read v).2.2⟩
/-- a block of a row, and all that is below it: so many bytes; chunks: are these read? -/
def nd (chunks : Bool) : Nat → VS → Int → Nat → RT
  | 0, x, v, n => if chunks then rdOne x v 0 n else ⟨0, [(0, v, none0)], x⟩
  | l + 1, x, v, n =>
    if (rdOne x v (l + 1) (4 * pcs n (sp l))).e = 0 then
      (rdOne x v (l + 1) (4 * pcs n (sp l))).and (loopN (fun i y => nd chunks l y (ptrAt (x.read v).2.1 i) (min (sp l) (n - i * sp l))) (pcs n (sp l)) 0 (rdOne x v (l + 1) (4 * pcs n (sp l))).x)
    else ⟨(rdOne x v (l + 1) (4 * pcs n (sp l))).e, [], (rdOne x v (l + 1) (4 * pcs n (sp l))).x⟩
def badBlob (root size : Int) : Bool := decide (size < 0) || decide (16384 < size) || (decide (root = 0) != decide (size = 0))
def ndBlob (chunks : Bool) (x : VS) (root size : Int) : RT :=
  if badBlob root size = true then ⟨110, [], x⟩ else if size = 0 then ⟨0, [], x⟩ else nd chunks ((rowsL size.toNat).length - 1) x root size.toNat
/-- the blocks' numbers; those of a row, with what they carry -/
def ordOf (V : Vis) : List Int := V.map (·.2.1)
def levOf (j : Nat) (V : Vis) : List (Int × ByteArray) := (V.filter (fun t => decide (t.1 = j))).map (·.2)
def catOf (L : List (Int × ByteArray)) : List UInt8 := (L.map (fun p => p.2.data.toList)).flatten
theorem ordOf_app (a b : Vis) : ordOf (a ++ b) = ordOf a ++ ordOf b := by simp [ordOf]
theorem levOf_app (j : Nat) (a b : Vis) : levOf j (a ++ b) = levOf j a ++ levOf j b := by simp [levOf]
theorem levOf_nil (j : Nat) : levOf j [] = [] := rfl
theorem catOf_app (a b : List (Int × ByteArray)) : catOf (a ++ b) = catOf a ++ catOf b := by simp [catOf]

/-- what a tree's node is visited as -/
def visN (M : Mem) (lv : List (List Nat)) (chunks : Bool) : Nat → Nat → Vis
  | 0, a => [(0, (((lv.getD 0 []).getD a 0 : Nat) : Int), if chunks then bsL (M ((lv.getD 0 []).getD a 0)) else none0)]
  | l + 1, a => (l + 1, (((lv.getD (l + 1) []).getD a 0 : Nat) : Int), bsL (M ((lv.getD (l + 1) []).getD a 0))) :: (List.range (manyN (lv.getD l []).length a)).flatMap (fun i => visN M lv chunks l (60 * a + i))
theorem ord_visN (M : Mem) (lv : List (List Nat)) (chunks : Bool) : ∀ l a, ordOf (visN M lv chunks l a) = (orderN lv l a).map (fun n : Nat => (n : Int))
  | 0, a => rfl
  | l + 1, a => by
    have h : ∀ L : List Nat, ordOf (L.flatMap fun i => visN M lv chunks l (60 * a + i)) = (L.flatMap fun i => orderN lv l (60 * a + i)).map (fun n : Nat => (n : Int)) := by
      intro L
      induction L with
      | nil => rfl
      | cons i L ih => rw [List.flatMap_cons, List.flatMap_cons, ordOf_app, ih, ord_visN M lv chunks l, List.map_append]
    rw [visN, orderN, List.map_cons, ← h]
    rfl
theorem sp_succ (l : Nat) : sp (l + 1) = 60 * sp l := by unfold sp; rw [Nat.pow_succ]; omega
theorem sp_pos (l : Nat) : 1 ≤ sp l := by unfold sp; have := Nat.pow_pos (n := l) (show 0 < 60 by decide); omega
/-- so many pointers -/
theorem pcs_many {E n s a : Nat} (hE : 1 ≤ E) (hn : n = (s + E - 1) / E) (ha : 60 * a < n) : pcs (min (60 * E) (s - 60 * E * a)) E = manyN n a := by
  unfold pcs manyN
  have h1 : n * E < s + E := by
    rw [hn]
    have := Nat.div_mul_le_self (s + E - 1) E
    omega
  have h2 : s ≤ n * E := by
    rw [hn]
    have := Nat.div_add_mod (s + E - 1) E
    have h3 := Nat.mod_lt (s + E - 1) (show 0 < E by omega)
    rw [Nat.mul_comm] at this
    omega
  have e1 : 60 * E * a = 60 * a * E := by rw [Nat.mul_assoc, Nat.mul_comm E a, ← Nat.mul_assoc]
  rw [e1]
  rcases Nat.le_total 60 (n - 60 * a) with h | h
  · rw [Nat.min_eq_left h]
    obtain ⟨d, hd⟩ : ∃ d, n = 60 * a + 60 + d := ⟨n - 60 * a - 60, by omega⟩
    have h4 : n * E = 60 * a * E + 60 * E + d * E := by rw [hd, Nat.add_mul, Nat.add_mul]
    by_cases hc : 60 * E ≤ s - 60 * a * E
    · rw [Nat.min_eq_left hc]
      rw [show 60 * E + E - 1 = E - 1 + E * 60 by omega, Nat.add_mul_div_left _ _ (by omega), Nat.div_eq_of_lt (by omega)]
    · rw [Nat.min_eq_right (by omega)]
      refine Nat.div_eq_of_lt_le ?_ ?_
      · omega
      · rw [show (60 + 1) * E = 60 * E + E by rw [Nat.add_mul, Nat.one_mul]]
        omega
  · rw [Nat.min_eq_right h]
    obtain ⟨d, hd⟩ : ∃ d, n = 60 * a + d := ⟨n - 60 * a, by omega⟩
    have h4 : n * E = 60 * a * E + d * E := by rw [hd, Nat.add_mul]
    have h5 : d ≤ 60 := by omega
    have h6 : d * E ≤ 60 * E := Nat.mul_le_mul_right _ h5
    rw [Nat.min_eq_right (by omega), show n - 60 * a = d by omega]
    refine Nat.div_eq_of_lt_le ?_ ?_
    · omega
    · rw [Nat.add_mul, Nat.one_mul]; omega
/-- how many blocks of a row there are -/
theorem tree_count {M : Mem} {lv : List (List Nat)} {b : List UInt8} (h : Tree M lv b) : ∀ l, l < lv.length → (lv.getD l []).length = (b.length + sp l - 1) / sp l
  | 0, hl => by
    rw [((tree_at h 0 hl).chunk rfl).1]
    rfl
  | l + 1, hl => by
    have h1 := tree_count h l (by omega)
    have h2 := ((tree_at h (l + 1) hl).point l rfl).1
    rw [length_ptrs] at h2
    have e : cuts (4 * (lv.getD l []).length) = ((lv.getD l []).length + 59) / 60 := by unfold cuts; omega
    rw [h2, e, h1, sp_succ]
    have hp := sp_pos l
    generalize sp l = E at *
    have e2 : b.length + 60 * E - 1 = (b.length + E - 1) + E * 59 := by omega
    rw [e2, Nat.mul_comm 60 E, ← Nat.div_div_eq_div_mul, Nat.add_mul_div_left _ _ (by omega)]
section
variable {N : Nat} {M : Mem} {W : Nat → Prop} {lv : List (List Nat)} {b : List UInt8}
theorem loopN_all {step : Nat → VS → RT} {P : VS → Prop} {g : Nat → Vis} (n : Nat) (h : ∀ i, i < n → ∀ y, P y → ∃ y', step i y = ⟨0, g i, y'⟩ ∧ P y') : ∀ k i, i + k = n → ∀ y, P y → ∃ y', loopN step k i y = ⟨0, (List.range k).flatMap (fun j => g (i + j)), y'⟩ ∧ P y'
  | 0, i, _, y, hy => ⟨y, by simp [loopN], hy⟩
  | k + 1, i, hi, y, hy => by
    obtain ⟨y1, e1, p1⟩ := h i (by omega) y hy
    obtain ⟨y2, e2, p2⟩ := loopN_all n h k (i + 1) (by omega) y1 p1
    refine ⟨y2, ?_, p2⟩
    rw [loopN_go (by rw [e1]), e1]
    simp only
    rw [e2, RT.and, List.range_succ_eq_map, List.flatMap_cons, List.flatMap_map]
    simp only [Nat.add_zero, Nat.succ_eq_add_one]
    have e : (fun j => g (i + 1 + j)) = fun a => g (i + (a + 1)) := funext fun j => by rw [show i + 1 + j = i + (j + 1) by omega]
    rw [e]
theorem nd_calm (h : Tree M lv b) (hN : N ≤ 4294967296) (hr : ∀ x ∈ lv.flatten, 1 ≤ x ∧ x < N ∧ W x) (chunks : Bool) :
    ∀ (l : Nat) (_ : l < lv.length) (a : Nat) (_ : a < (lv.getD l []).length) (x : VS), CalmV x N M W →
      ∃ x', nd chunks l x (((lv.getD l []).getD a 0 : Nat)) (min (sp l) (b.length - sp l * a)) = ⟨0, visN M lv chunks l a, x'⟩ ∧ CalmV x' N M W := by
  have hmem : ∀ l (_ : l < lv.length) a (ha : a < (lv.getD l []).length), (lv.getD l []).getD a 0 ∈ lv.flatten := fun l hl a ha => by
    rw [List.mem_flatten]
    exact ⟨lv.getD l [], getD_mem lv l [] hl, getD_mem _ a 0 ha⟩
  have hget : ∀ l a (ha : a < (lv.getD l []).length), (lv.getD l []).getD a 0 = (lv.getD l [])[a] := fun l a ha => getD_at _ a 0 ha
  intro l
  induction l with
  | zero =>
    intro hl a ha x hc
    obtain ⟨r1, r2, r3⟩ := hr _ (hmem 0 hl a ha)
    have hB := (tree_at h 0 hl).chunk rfl
    have hM := hB.2 a ha
    rw [← hget 0 a ha] at hM
    cases chunks with
    | false => exact ⟨x, rfl, hc⟩
    | true =>
      obtain ⟨e1, e2, e3⟩ := hc.read r1 r2 r3
      refine ⟨_, ?_, e3⟩
      rw [nd, if_pos rfl, rdOne, if_neg (by rw [e1]; simp), if_neg (by rw [e2, size_bsL, hM, length_part]; simp [sp]), e2]
      rfl
  | succ l ih =>
    intro hl a ha x hc
    obtain ⟨r1, r2, r3⟩ := hr _ (hmem (l + 1) hl a ha)
    have hB := (tree_at h (l + 1) hl).point l rfl
    have hM := hB.2 a ha
    rw [← hget (l + 1) a ha, ptrs_part] at hM
    obtain ⟨e1, e2, e3⟩ := hc.read r1 r2 r3
    have hcount := tree_count h l (by omega)
    have hcount1 := tree_count h (l + 1) hl
    have hp := sp_pos l
    have hlen60 : 60 * a < (lv.getD l []).length := by
      have := hB.1
      rw [length_ptrs] at this
      unfold cuts at this
      omega
    have hpc : pcs (min (sp (l + 1)) (b.length - sp (l + 1) * a)) (sp l) = manyN (lv.getD l []).length a := by
      rw [sp_succ]
      exact pcs_many hp hcount hlen60
    obtain ⟨L, hL⟩ : ∃ L, ((lv.getD l []).drop (60 * a)).take 60 = L := ⟨_, rfl⟩
    have hLl : L.length = manyN (lv.getD l []).length a := by rw [← hL, List.length_take, List.length_drop]; rfl
    have hLb : ∀ x ∈ L, x < 4294967296 := fun x hx => by
      have hx2 : x ∈ lv.getD l [] := by rw [← hL] at hx; exact List.mem_of_mem_drop (List.mem_of_mem_take hx)
      have := (hr x (by
        rw [List.mem_flatten]
        exact ⟨lv.getD l [], getD_mem lv l [] (by omega), hx2⟩)).2.1
      omega
    rw [hL] at hM
    have hseen : rdOne x (((lv.getD (l + 1) []).getD a 0 : Nat) : Int) (l + 1) (4 * manyN (lv.getD l []).length a) = ⟨0, [(l + 1, (((lv.getD (l + 1) []).getD a 0 : Nat) : Int), bsL (M ((lv.getD (l + 1) []).getD a 0)))], (x.read (((lv.getD (l + 1) []).getD a 0 : Nat) : Int)).2.2⟩ := by
      rw [rdOne, if_neg (by rw [e1]; simp), if_neg (by rw [e2, size_bsL, hM, length_ptrs, hLl]; simp), e2]
    have hloop := loopN_all (step := fun i y => nd chunks l y (ptrAt (x.read (((lv.getD (l + 1) []).getD a 0 : Nat) : Int)).2.1 i) (min (sp l) (min (sp (l + 1)) (b.length - sp (l + 1) * a) - i * sp l))) (P := fun y => CalmV y N M W) (g := fun i => visN M lv chunks l (60 * a + i)) (manyN (lv.getD l []).length a) (fun i hi y hy => by
      have hiL : i < L.length := by rw [hLl]; exact hi
      have hia : 60 * a + i < (lv.getD l []).length := by unfold manyN at hi; omega
      have hLk : L[i] = (lv.getD l []).getD (60 * a + i) 0 := by
        rw [hget l _ hia]
        simp only [← hL, List.getElem_take, List.getElem_drop]
      show ∃ y', nd chunks l y (ptrAt (x.read (((lv.getD (l + 1) []).getD a 0 : Nat) : Int)).2.1 i) (min (sp l) (min (sp (l + 1)) (b.length - sp (l + 1) * a) - i * sp l)) = _ ∧ _
      rw [e2, hM, ptr_at L i hiL hLb, hLk]
      have hmn : min (sp l) (min (sp (l + 1)) (b.length - sp (l + 1) * a) - i * sp l) = min (sp l) (b.length - sp l * (60 * a + i)) := by
        have hi60 : i < 60 := by unfold manyN at hi; omega
        rw [sp_succ]
        have e3 : 60 * sp l * a = sp l * (60 * a) := by rw [Nat.mul_comm 60, Nat.mul_assoc]
        have e4 : sp l * (60 * a + i) = sp l * (60 * a) + i * sp l := by rw [Nat.mul_add, Nat.mul_comm (sp l) i]
        have e5 : i * sp l + sp l ≤ 60 * sp l := by
          have := Nat.mul_le_mul_right (sp l) (show i + 1 ≤ 60 by omega)
          rw [Nat.add_mul, Nat.one_mul] at this
          exact this
        rw [e3, e4]
        generalize sp l * (60 * a) = X
        generalize i * sp l = Y at *
        generalize sp l = E at *
        omega
      rw [hmn]
      exact ih (by omega) (60 * a + i) hia y hy) (manyN (lv.getD l []).length a) 0 (by omega) _ e3
    obtain ⟨x', f1, f2⟩ := hloop
    refine ⟨x', ?_, f2⟩
    rw [nd, hpc, hseen, if_pos rfl]
    simp only
    rw [f1]
    simp only [RT.and, visN, Nat.zero_add, List.singleton_append]
theorem levOf_flat {α : Type} (j : Nat) (f : α → Vis) : ∀ L : List α, levOf j (L.flatMap f) = L.flatMap fun a => levOf j (f a)
  | [] => rfl
  | a :: L => by rw [List.flatMap_cons, levOf_app, levOf_flat j f L, List.flatMap_cons]
/-- what a row of a tree is visited as -/
def rowV (M : Mem) (now : List Nat) : List (Int × ByteArray) := now.map fun n : Nat => ((n : Int), bsL (M n))
theorem row_mapV (M : Mem) (L : List Nat) : ((List.range L.length).flatMap fun a => [(((L.getD a 0 : Nat) : Int), bsL (M (L.getD a 0)))]) = rowV M L := by
  rw [flatMap_one, rowV]
  conv => rhs; rw [← row_map L, List.map_map]
  rfl
theorem lev_above (M : Mem) (lv : List (List Nat)) : ∀ l a j, l < j → levOf j (visN M lv true l a) = []
  | 0, a, j, h => by
    have : ¬ 0 = j := by omega
    simp [levOf, visN, this]
  | l + 1, a, j, h => by
    have h1 : ¬ l + 1 = j := by omega
    have e : visN M lv true (l + 1) a = [(l + 1, (((lv.getD (l + 1) []).getD a 0 : Nat) : Int), bsL (M ((lv.getD (l + 1) []).getD a 0)))] ++ (List.range (manyN (lv.getD l []).length a)).flatMap (fun i => visN M lv true l (60 * a + i)) := rfl
    rw [e, levOf_app, levOf_flat]
    have e2 : ∀ L : List Nat, (L.flatMap fun i => levOf j (visN M lv true l (60 * a + i))) = [] := by
      intro L
      induction L with
      | nil => rfl
      | cons i L ih => rw [List.flatMap_cons, ih, lev_above M lv l _ j (by omega)]; rfl
    rw [e2]
    simp [levOf, h1]
theorem lev_all (h : Tree M lv b) : ∀ l, l < lv.length → ∀ j, j ≤ l → levOf j ((List.range (lv.getD l []).length).flatMap (visN M lv true l)) = rowV M (lv.getD j [])
  | 0, hl, j, hj => by
    obtain rfl : j = 0 := by omega
    rw [levOf_flat, ← row_mapV]
    congr 1
  | l + 1, hl, j, hj => by
    have hp := (tree_at h (l + 1) hl).point l rfl
    have hn := hp.1
    rw [length_ptrs] at hn
    have e : ∀ a, levOf j (visN M lv true (l + 1) a) = levOf j [(l + 1, (((lv.getD (l + 1) []).getD a 0 : Nat) : Int), bsL (M ((lv.getD (l + 1) []).getD a 0)))] ++ (List.range (manyN (lv.getD l []).length a)).flatMap (fun i => levOf j (visN M lv true l (60 * a + i))) := fun a => by
      rw [← levOf_flat, ← levOf_app]
      rfl
    rw [levOf_flat]
    by_cases hjl : j = l + 1
    · subst hjl
      rw [← row_mapV]
      congr 1
      funext a
      rw [e a]
      have e2 : ∀ L : List Nat, (L.flatMap fun i => levOf (l + 1) (visN M lv true l (60 * a + i))) = [] := by
        intro L
        induction L with
        | nil => rfl
        | cons i L ih => rw [List.flatMap_cons, ih, lev_above M lv l _ (l + 1) (by omega)]; rfl
      rw [e2]
      simp [levOf]
    · have e2 : (fun a => levOf j (visN M lv true (l + 1) a)) = fun a => (List.range (manyN (lv.getD l []).length a)).flatMap (fun i => levOf j (visN M lv true l (60 * a + i))) := by
        funext a
        rw [e a]
        have : ¬ l + 1 = j := by omega
        simp [levOf, this]
      rw [e2, rows_cat (fun i => levOf j (visN M lv true l i)), show min (lv.getD l []).length (60 * (lv.getD (l + 1) []).length) = (lv.getD l []).length by rw [hn]; unfold cuts; omega, ← levOf_flat]
      exact lev_all h l (by omega) j (by omega)
/-- the levels of a whole tree -/
theorem lev_tree (h : Tree M lv b) (hne : lv ≠ []) (j : Nat) (hj : j < lv.length) : levOf j (visN M lv true (lv.length - 1) 0) = rowV M (lv.getD j []) := by
  have hl : lv.length - 1 < lv.length := by have := List.length_pos_iff.2 hne; omega
  have := lev_all h (lv.length - 1) hl j (by omega)
  rw [tree_last h hne] at this
  simpa using this
theorem cat_parts {M : Mem} : ∀ (L : List Nat) (i : Nat), (∀ j (hj : j < L.length), M L[j] = part b (i + j)) → catOf (rowV M L) = (b.drop (240 * i)).take (240 * L.length)
  | [], i, _ => by simp [catOf, rowV]
  | n :: L, i, hp => by
    have h0 := hp 0 (by simp)
    have ih := cat_parts L (i + 1) (fun j hj => by have := hp (j + 1) (by simpa using hj); rw [show i + (j + 1) = i + 1 + j by omega] at this; simpa using this)
    have e : catOf (rowV M (n :: L)) = M n ++ catOf (rowV M L) := by simp [catOf, rowV, data_bsL]
    rw [e, ih, show M n = part b i from h0, List.length_cons, show 240 * (L.length + 1) = 240 + 240 * L.length by omega, List.take_add, List.drop_drop, show 240 * i + 240 = 240 * (i + 1) by omega]
    rfl
theorem cat_bears {now : List Nat} (h : Bears M b now) : catOf (rowV M now) = b := by
  rw [cat_parts now 0 (fun j hj => by rw [Nat.zero_add]; exact h.2 j hj), Nat.mul_zero, List.drop_zero]
  exact List.take_of_length_le (bears_le h)
def visT (M : Mem) (lv : List (List Nat)) (chunks : Bool) : Vis := if lv = [] then [] else visN M lv chunks (lv.length - 1) 0
theorem badBlob_no {root n : Nat} (hn : n ≤ 16384) (h : root = 0 ↔ n = 0) : badBlob (root : Int) (n : Int) = false := by
  unfold badBlob
  rw [decide_eq_false (by omega), decide_eq_false (by omega), show decide ((root : Int) = 0) = decide ((n : Int) = 0) from decide_eq_decide.2 (by omega)]
  simp
/-- a blob's tree on a calm volume -/
theorem ndBlob_tree (h : Tree M lv b) (hb : b.length ≤ 16384) (hN : N ≤ 4294967296) (hr : ∀ x ∈ lv.flatten, 1 ≤ x ∧ x < N ∧ W x) (chunks : Bool) {x : VS} (hc : CalmV x N M W) :
    ∃ x', ndBlob chunks x (rootOf lv : Nat) (b.length : Nat) = ⟨0, visT M lv chunks, x'⟩ ∧ CalmV x' N M W := by
  by_cases h0 : b = []
  · subst h0
    obtain rfl := tree_nil h
    exact ⟨x, by simp [ndBlob, rootOf, visT, badBlob], hc⟩
  · have hne := tree_ne h h0
    have hl : lv.length - 1 < lv.length := by have := List.length_pos_iff.2 hne; omega
    have hlen : b.length ≠ 0 := fun e => h0 (List.eq_nil_of_length_eq_zero e)
    have hroot := hr _ (root_mem h hne)
    have hrows : rowsL b.length = lv.map List.length := (tree_rows 3 h (by unfold cuts; omega)).symm
    obtain ⟨x', e, hc'⟩ := nd_calm h hN hr chunks (lv.length - 1) hl 0 (by rw [tree_last h hne]; omega) x hc
    refine ⟨x', ?_, hc'⟩
    rw [ndBlob, badBlob_no hb (by omega), if_neg (by simp), if_neg (by omega), Int.toNat_natCast, show (rowsL b.length).length - 1 = lv.length - 1 by rw [hrows, List.length_map]]
    have hd : min (sp (lv.length - 1)) (b.length - sp (lv.length - 1) * 0) = b.length := by
      have := tree_bytes h (lv.length - 1) hl
      rw [tree_last h hne, Nat.mul_one] at this
      unfold sp
      rw [Nat.mul_zero, Nat.sub_zero, Nat.min_eq_right this]
    rw [hd] at e
    rw [show ((rootOf lv : Nat) : Int) = (((lv.getD (lv.length - 1) []).getD 0 0 : Nat) : Int) from rfl, e, visT, if_neg hne]
theorem ord_visT (M : Mem) (lv : List (List Nat)) (chunks : Bool) : ordOf (visT M lv chunks) = (orderT lv).map (fun n : Nat => (n : Int)) := by
  unfold visT orderT
  split
  · rfl
  · exact ord_visN ..
theorem lev_visT (h : Tree M lv b) (j : Nat) : levOf j (visT M lv true) = rowV M (lv.getD j []) := by
  unfold visT
  split
  · rename_i e; subst e; rfl
  · rename_i hne
    by_cases hj : j < lv.length
    · exact lev_tree h hne j hj
    · rw [lev_above M lv _ _ j (by have := List.length_pos_iff.2 hne; omega), List.getD_eq_getElem?_getD, List.getElem?_eq_none (by omega)]
      rfl
theorem cat_visT (h : Tree M lv b) : catOf (levOf 0 (visT M lv true)) = b := by
  rw [lev_visT h]
  match lv, h with
  | [], h => have : b = [] := h; subst this; rfl
  | [now], h => exact cat_bears h.1
  | now :: nx :: rest, h => exact cat_bears h.1
end
end Go.Proofs.YtmloljjllmmkoaaGreat.TR

namespace Go.Proofs.YtmloljjllmmkoaaGreat.TR
open Go

theorem rows_is {n : Nat} (h0 : n ≠ 0) (hn : n ≤ 16384) : rowsL n = if n ≤ 240 then [1] else if n ≤ 14400 then [cuts n, 1] else [cuts n, 2, 1] := by
  unfold rowsL
  rw [rowsN, if_neg h0]
  by_cases h1 : n ≤ 240
  · rw [if_pos h1, if_pos (by unfold cuts; omega)]
  · rw [if_neg h1, if_neg (by unfold cuts; omega), rowsN, if_neg (by unfold cuts; omega)]
    by_cases h2 : n ≤ 14400
    · rw [if_pos h2, if_pos (by unfold cuts; omega)]
    · rw [if_neg h2, if_neg (by unfold cuts; omega), show cuts (4 * cuts n) = 2 by unfold cuts; omega]
      rfl
theorem rows_sum {n : Nat} (hn : n ≤ 16384) : (rowsL n).sum ≤ 72 ∧ (rowsL n).tail.sum ≤ 3 ∧ (rowsL n).length ≤ 3 := by
  by_cases h0 : n = 0
  · subst h0
    rw [rowsL_nil.2 rfl]
    simp
  · rw [rows_is h0 hn]
    have hc : cuts n ≤ 69 := by unfold cuts; omega
    split
    · simp
    · split <;> simp <;> omega
theorem rows_levels {n : Nat} (h0 : n ≠ 0) (hn : n ≤ 16384) : (rowsL n).length = if 14400 < n then 3 else if 240 < n then 2 else 1 := by
  rw [rows_is h0 hn]
  by_cases h1 : n ≤ 240
  · rw [if_pos h1, if_neg (by omega), if_neg (by omega)]; rfl
  · by_cases h2 : n ≤ 14400
    · rw [if_neg h1, if_pos h2, if_neg (by omega), if_pos (by omega)]; rfl
    · rw [if_neg h1, if_neg h2, if_pos (by omega)]; rfl

section
variable {old : List Nat} {had b : List UInt8}
/-- one part is another one: one block is taken, at its place -/
theorem row_one {i0 : Nat} {M : Mem} {f : Nat} {fr : List Nat} (hne : part had i0 ≠ part b i0) : ∀ (k i : Nat), i + k = old.length → i ≤ i0 → i0 < i + k → (∀ j, i ≤ j → j < i + k → j ≠ i0 → part had j = part b j) →
    storeRow old had b k i M (f :: fr) = ⟨true, (old.set i0 f).drop i, memput M f (part b i0), fr⟩
  | 0, i, _, h1, h2, _ => by omega
  | k + 1, i, hl, h1, h2, h => by
    by_cases e : i = i0
    · subst e
      rw [row_take (by rintro ⟨_, h'⟩; exact hne h'), row_same k (i + 1) _ _ (fun j hj => ⟨by omega, h (i + 1 + j) (by omega) (by omega) (by omega)⟩)]
      have hlen : (old.set i f).length = old.length := List.length_set ..
      rw [List.drop_eq_getElem_cons (show i < (old.set i f).length by omega), List.getElem_set_self, List.drop_set_of_lt (by omega), List.take_of_length_le (by rw [List.length_drop]; omega)]
    · rw [row_share ⟨by omega, h i (Nat.le_refl _) (by omega) e⟩, row_one hne k (i + 1) (by omega) (by omega) (by omega) (fun j a c d => h j (by omega) (by omega) d)]
      have hlen : (old.set i0 f).length = old.length := List.length_set ..
      rw [List.drop_eq_getElem_cons (show i < (old.set i0 f).length by omega), List.getElem_set_ne (by omega)]
/-- what is ahead is shared -/
theorem row_split {M : Mem} {fr : List Nat} (c : Nat) : ∀ (a i : Nat), (∀ j, j < a → i + j < old.length ∧ part had (i + j) = part b (i + j)) →
    storeRow old had b (a + c) i M fr = ⟨(storeRow old had b c (i + a) M fr).ok, (old.drop i).take a ++ (storeRow old had b c (i + a) M fr).now, (storeRow old had b c (i + a) M fr).mem, (storeRow old had b c (i + a) M fr).free⟩
  | 0, i, _ => by simp
  | a + 1, i, h => by
    have h0 := h 0 (by omega)
    rw [Nat.add_zero] at h0
    rw [show a + 1 + c = (a + c) + 1 by omega, row_share h0, row_split c a (i + 1) (fun j hj => by have := h (j + 1) (by omega); rwa [show i + (j + 1) = i + 1 + j by omega] at this), List.drop_eq_getElem_cons h0.1, List.take_succ_cons, show i + 1 + a = i + (a + 1) by omega]
    rfl
/-- as many are taken as there are at most -/
theorem row_most : ∀ (k i : Nat) (M : Mem) (fr : List Nat), ∃ t, (storeRow old had b k i M fr).free = fr.drop t ∧ t ≤ k ∧ t ≤ fr.length
  | 0, i, M, fr => ⟨0, by simp [storeRow], Nat.le_refl _, Nat.zero_le _⟩
  | k + 1, i, M, fr => by
    by_cases h : i < old.length ∧ part had i = part b i
    · rw [row_share h]
      obtain ⟨t, h1, h2, h3⟩ := row_most k (i + 1) M fr
      exact ⟨t, h1, by omega, h3⟩
    · cases fr with
      | nil => rw [row_full h]; exact ⟨0, by simp, by omega, by simp⟩
      | cons f fr =>
        rw [row_take h]
        obtain ⟨t, h1, h2, h3⟩ := row_most k (i + 1) (memput M f (part b i)) fr
        exact ⟨t + 1, by rw [h1, List.drop_succ_cons], by omega, by simp; omega⟩
end
theorem lv_most (alike : Bool) : ∀ (ks : List Nat) (first : Bool) (olds : List (List Nat)) (had b : List UInt8) (M : Mem) (fr : List Nat), ∃ t, (storeLv alike ks first olds had b M fr).free = fr.drop t ∧ t ≤ ks.sum ∧ t ≤ fr.length
  | [], _, _, _, _, _, _ => ⟨0, by simp [storeLv], by simp, Nat.zero_le _⟩
  | k :: ks, first, olds, had, b, M, fr => by
    obtain ⟨t1, h1, h2, h3⟩ := row_most (old := if first || alike then olds.headD [] else []) (had := had) (b := b) k 0 M fr
    rw [storeLv]
    generalize (if first || alike then olds.headD [] else []) = old at h1 ⊢
    by_cases hok : (storeRow old had b k 0 M fr).ok = true
    · obtain ⟨t2, g1, g2, g3⟩ := lv_most alike ks false olds.tail (ptrs (olds.headD [])) (ptrs (storeRow old had b k 0 M fr).now) (storeRow old had b k 0 M fr).mem (storeRow old had b k 0 M fr).free
      rw [if_pos hok]
      refine ⟨t1 + t2, ?_, ?_, ?_⟩
      · rw [show ∀ a b c d, (⟨a, b, c, d⟩ : LvR).free = d from fun _ _ _ _ => rfl, g1, h1, List.drop_drop]
      · simp only [List.sum_cons]; omega
      · rw [h1, List.length_drop] at g3; omega
    · rw [if_neg hok]
      exact ⟨t1, h1, by simp only [List.sum_cons]; omega, h3⟩
theorem part_whole {b : List UInt8} {k i : Nat} (h : 240 * i + 240 ≤ k) : part (b.take k) i = part b i := by
  unfold part
  rw [List.drop_take, List.take_take, Nat.min_eq_left (by omega)]
/-- a beginning of what is there: at most one chunk is taken, and the pointers -/
theorem lv_begin (alike : Bool) {M M0 : Mem} {lv : List (List Nat)} {b : List UInt8} (h : Tree M0 lv b) (hb : b.length ≤ 16384) (k : Nat) (hk : k < b.length) (fr : List Nat) :
    ∃ t, (storeLv alike (rowsL (b.take k).length) true lv b (b.take k) M fr).free = fr.drop t ∧ t ≤ 4 ∧ t ≤ fr.length := by
  have hl : (b.take k).length = k := by rw [List.length_take]; omega
  rw [hl]
  by_cases h0 : k = 0
  · subst h0
    rw [rowsL_nil.2 rfl]
    exact ⟨0, by simp [storeLv], by omega, Nat.zero_le _⟩
  · have hs := rows_sum (n := k) (by omega)
    obtain ⟨n, ks, hr, hn⟩ : ∃ n ks, rowsL k = n :: ks ∧ n = cuts k := by
      rw [rows_is h0 (by omega)]
      split
      · exact ⟨1, [], rfl, by unfold cuts; omega⟩
      · split
        · exact ⟨_, _, rfl, rfl⟩
        · exact ⟨_, _, rfl, rfl⟩
    rw [hr] at hs ⊢
    simp only [List.tail_cons] at hs
    have hhead : Bears M0 b (lv.headD []) := by
      match lv, h with
      | [], h => have : b = [] := h; subst this; simp at hk
      | [_], h => exact h.1
      | _ :: _ :: _, h => exact h.1
    have hlen := hhead.1
    have hn1 : 1 ≤ n := by rw [hn]; unfold cuts; omega
    have hsp := row_split (old := if true || alike then lv.headD [] else []) (had := b) (b := b.take k) (M := M) (fr := fr) 1 (n - 1) 0 (fun j hj => by
      simp only [Bool.true_or, if_true, Nat.zero_add]
      refine ⟨by rw [hlen]; unfold cuts at *; omega, (part_whole ?_).symm⟩
      unfold cuts at hn
      omega)
    rw [show n - 1 + 1 = n by omega] at hsp
    obtain ⟨t1, h1, h2, h3⟩ := row_most (old := if true || alike then lv.headD [] else []) (had := b) (b := b.take k) 1 (0 + (n - 1)) M fr
    have hfree : (storeRow (if true || alike then lv.headD [] else []) b (b.take k) n 0 M fr).free = fr.drop t1 := by rw [hsp]; exact h1
    rw [storeLv]
    generalize (if true || alike then lv.headD [] else []) = old at hfree ⊢
    by_cases hok : (storeRow old b (b.take k) n 0 M fr).ok = true
    · obtain ⟨t2, g1, g2, g3⟩ := lv_most alike ks false lv.tail (ptrs (lv.headD [])) (ptrs (storeRow old b (b.take k) n 0 M fr).now) (storeRow old b (b.take k) n 0 M fr).mem (storeRow old b (b.take k) n 0 M fr).free
      rw [if_pos hok]
      refine ⟨t1 + t2, ?_, by omega, ?_⟩
      · rw [show ∀ a b c d, (⟨a, b, c, d⟩ : LvR).free = d from fun _ _ _ _ => rfl, g1, hfree, List.drop_drop]
      · rw [hfree, List.length_drop] at g3; omega
    · rw [if_neg hok]
      exact ⟨t1, hfree, by omega, h3⟩
/-- bytes that are others in one place -/
theorem part_set (b : List UInt8) (k : Nat) (v : UInt8) (i : Nat) (h : i ≠ k / 240) : part (b.set k v) i = part b i := by
  unfold part
  apply List.ext_getElem?
  intro j
  rw [List.getElem?_take, List.getElem?_take, List.getElem?_drop, List.getElem?_drop]
  split
  · rw [List.getElem?_set_ne (by omega)]
  · rfl
theorem part_set_ne (b : List UInt8) (k : Nat) (v : UInt8) (hk : k < b.length) (hv : b[k] ≠ v) : part b (k / 240) ≠ part (b.set k v) (k / 240) := by
  intro e
  have e2 := congrArg (fun l => l[k - 240 * (k / 240)]?) e
  unfold part at e2
  simp only [List.getElem?_take, List.getElem?_drop] at e2
  rw [if_pos (by omega), if_pos (by omega), show 240 * (k / 240) + (k - 240 * (k / 240)) = k by omega, List.getElem?_set_self hk, List.getElem?_eq_getElem hk] at e2
  exact hv (Option.some.inj e2)
theorem ptrs_one {L : List Nat} {i0 f : Nat} (hi : i0 < L.length) (hb : ∀ x ∈ L, x < 4294967296) (hf : f < 4294967296) (hne : L[i0] ≠ f) :
    part (ptrs L) (i0 / 60) ≠ part (ptrs (L.set i0 f)) (i0 / 60) ∧ ∀ j, j ≠ i0 / 60 → part (ptrs L) j = part (ptrs (L.set i0 f)) j := by
  constructor
  · rw [ptrs_part, ptrs_part]
    intro e
    have e1 := ptrs_inj (fun x hx => hb x (List.mem_of_mem_drop (List.mem_of_mem_take hx))) (fun x hx => by
      rcases List.mem_or_eq_of_mem_set (List.mem_of_mem_drop (List.mem_of_mem_take hx)) with h | h
      · exact hb x h
      · omega) e
    have e2 := congrArg (fun l => l[i0 - 60 * (i0 / 60)]?) e1
    simp only [List.getElem?_take, List.getElem?_drop] at e2
    rw [if_pos (by omega), if_pos (by omega), show 60 * (i0 / 60) + (i0 - 60 * (i0 / 60)) = i0 by omega, List.getElem?_set_self hi, List.getElem?_eq_getElem hi] at e2
    exact hne (Option.some.inj e2)
  · intro j hj
    rw [ptrs_part, ptrs_part]
    congr 1
    apply List.ext_getElem?
    intro m
    rw [List.getElem?_take, List.getElem?_take, List.getElem?_drop, List.getElem?_drop]
    split
    · rw [List.getElem?_set_ne (by omega)]
    · rfl
/-- one part is another one: one block of each level is taken -/
theorem lv_one {M0 : Mem} : ∀ (f : Nat) (first : Bool) {lv : List (List Nat)} {had b : List UInt8} (i0 : Nat) (M : Mem) (fr : List Nat), Tree M0 lv had → cuts had.length ≤ 60 ^ f → b.length = had.length → i0 < cuts had.length → part had i0 ≠ part b i0 → (∀ j, j ≠ i0 → part had j = part b j) →
    (∀ x ∈ lv.flatten, x < 4294967296 ∧ x ∉ fr) → (∀ x ∈ fr, x < 4294967296) → lv.length ≤ fr.length →
    (storeLv true (rowsN (f + 1) b.length) first lv had b M fr).ok = true ∧ (storeLv true (rowsN (f + 1) b.length) first lv had b M fr).free = fr.drop lv.length := by
  intro f
  induction f with
  | zero =>
    intro first lv had b i0 M fr h hc hbl hi hne hsame hx hfx hfl
    rw [hbl, ← tree_rows 0 h hc]
    match lv, h, hx, hfl with
    | [], h, _, _ =>
      have : had = [] := h
      subst this
      simp [cuts] at hi
    | [now], h, hx, hfl =>
      have h1 := h.1.1
      obtain ⟨g, fr', rfl⟩ : ∃ g fr', fr = g :: fr' := by cases fr with | nil => simp at hfl | cons g fr' => exact ⟨g, fr', rfl⟩
      simp only [List.map_cons, List.map_nil, storeLv, Bool.or_true, if_true, List.headD_cons]
      rw [row_one hne now.length 0 (by omega) (by omega) (by omega) (fun j _ _ hj => hsame j hj)]
      simp
    | now :: nx :: rest, h, _, _ =>
      have h1 := h.1.1
      have h2 := h.2.1
      simp at hc
      omega
  | succ f ih =>
    intro first lv had b i0 M fr h hc hbl hi hne hsame hx hfx hfl
    match lv, h, hx, hfl with
    | [], h, _, _ =>
      have : had = [] := h
      subst this
      simp [cuts] at hi
    | [now], h, hx, hfl =>
      rw [hbl, ← tree_rows (f + 1) h hc]
      have h1 := h.1.1
      obtain ⟨g, fr', rfl⟩ : ∃ g fr', fr = g :: fr' := by cases fr with | nil => simp at hfl | cons g fr' => exact ⟨g, fr', rfl⟩
      simp only [List.map_cons, List.map_nil, storeLv, Bool.or_true, if_true, List.headD_cons]
      rw [row_one hne now.length 0 (by omega) (by omega) (by omega) (fun j _ _ hj => hsame j hj)]
      simp
    | now :: nx :: rest, h, hx, hfl =>
      have h1 := h.1.1
      have h2 := h.2.1
      have h0 : b.length ≠ 0 := fun e => by rw [← hbl, e, show cuts 0 = 0 from rfl] at h1; omega
      have hkl : now.length ≤ 60 * 60 ^ f := by rw [h1]; rw [Nat.pow_succ, Nat.mul_comm] at hc; exact hc
      obtain ⟨g, fr', rfl⟩ : ∃ g fr', fr = g :: fr' := by cases fr with | nil => simp at hfl | cons g fr' => exact ⟨g, fr', rfl⟩
      have hin : i0 < now.length := by rw [h1]; exact hi
      have hnow : ∀ x ∈ now, x ∈ (now :: nx :: rest).flatten := fun x hx => by rw [List.flatten_cons, List.mem_append]; exact .inl hx
      have hg : now[i0] ≠ g := fun e => (hx _ (hnow _ (List.getElem_mem hin))).2 (by rw [e]; exact List.mem_cons_self)
      obtain ⟨p1, p2⟩ := ptrs_one hin (fun x hm => (hx x (hnow x hm)).1) (hfx g List.mem_cons_self) hg
      have ih' := ih false (lv := nx :: rest) (had := ptrs now) (b := ptrs (now.set i0 g)) (i0 / 60) (memput M g (part b i0)) fr' h.2.2 (by rw [length_ptrs]; exact rows_next hkl) (by rw [length_ptrs, length_ptrs, List.length_set]) (by rw [length_ptrs]; unfold cuts; omega) p1 p2
        (fun x hm => ⟨(hx x (by rw [List.flatten_cons, List.mem_append]; exact .inr hm)).1, fun hf => (hx x (by rw [List.flatten_cons, List.mem_append]; exact .inr hm)).2 (List.mem_cons_of_mem _ hf)⟩) (fun x hm => hfx x (List.mem_cons_of_mem _ hm)) (by simp at hfl ⊢; omega)
      rw [length_ptrs, List.length_set] at ih'
      rw [rowsN, if_neg h0, if_neg (by rw [hbl, ← h1]; omega), hbl, ← h1, storeLv]
      simp only [Bool.or_true, if_true, List.headD_cons]
      rw [row_one hne now.length 0 (by omega) (by omega) (by omega) (fun j _ _ hj => hsame j hj)]
      simp only [List.drop_zero, if_true, List.tail_cons]
      exact ⟨ih'.1, by rw [ih'.2]; simp⟩
/-- how many blocks two lists share -/
theorem shared_sum (old : List Nat) (hn : old.Nodup) : ∀ l : List Nat, (l.map fun x => old.count x).sum = l.countP (fun x => decide (x ∈ old))
  | [] => rfl
  | x :: l => by
    rw [List.map_cons, List.sum_cons, shared_sum old hn l, List.countP_cons]
    by_cases h : x ∈ old
    · rw [List.Nodup.count hn, if_pos h, if_pos (by simpa using h)]; omega
    · rw [List.count_eq_zero_of_not_mem h, if_neg (by simpa using h)]; omega
end Go.Proofs.YtmloljjllmmkoaaGreat.TR

