/-
  What the laws do with stores: the first one, a next one; how many blocks are shared.
-/
import Derived.Test.YtaniajldnkcbjaaGreatTN
namespace Go.Proofs.YtaniajldnkcbjaaGreat
open Go.ChangeShapes Go.WideShapes Go.ChangeAt Go.RowKit Go.Shelf Go Go.Maps SM PL AL TR

section
variable {w0 w : World} {l b g m c pl k : Nat} {M : Mem} {P : Nat → Prop} {x : VS} {lv : List (List Nat)} {bt : List UInt8}
/-- bytes are stored over a tree, where there is room -/
theorem store_next (h : TB w0 l b g m c pl [] 300 1 k M (fun _ => False) x P w) (ht : TT [] 300 1 k M (fun _ => False) lv bt) (T : ByteArray) (hT : T.size ≤ 16384) (hroom : k + 72 ≤ 299) :
    Calls Tryz.prog 22 #[srcV l, .agg #[.int .i64 (rootOf lv : Nat), .int .i64 (bt.length : Nat)], .string T, .pointer (some ⟨pl, 0, none⟩)] w fun e w' => ∃ (t : Nat) (R : LvR) (x' : VS) (P' : Nat → Prop), storeLv (decide ((rowsL T.size).length = lv.length)) (rowsL T.size) true lv bt T.data.toList M ((ord [] 300 1).drop k) = R ∧ LvOk lv.flatten lv T.data.toList (rowsL T.data.toList.length) M ((ord [] 300 1).drop k) R t ∧ R.ok = true ∧ e = .returned (.tuple #[.agg #[.int .i64 (rootOf R.lv : Nat), .int .i64 (T.size : Nat)], .int .i64 0]) ∧ TB w0 l b g m c pl [] 300 1 (k + t) R.mem (fun _ => False) x' P' w' ∧ TT [] 300 1 (k + t) R.mem (fun _ => False) R.lv T.data.toList ∧ TT [] 300 1 (k + t) R.mem (fun _ => False) lv bt ∧ KK P w w' ∧ (∀ j, P' j → P j ∨ w.heap.size ≤ j) ∧ t ≤ 72 := by
  obtain ⟨R, hR⟩ : ∃ R, storeLv (decide ((rowsL T.size).length = lv.length)) (rowsL T.size) true lv bt T.data.toList M ((ord [] 300 1).drop k) = R := ⟨_, rfl⟩
  have C := h.store ht T hT hR
  refine (C : Calls Tryz.prog 22 #[srcV l, .agg #[.int .i64 (rootOf lv : Nat), .int .i64 (bt.length : Nat)], .string T, .pointer (some ⟨pl, 0, none⟩)] w _).mono ?_
  rintro e w' ⟨t, x', P', o, h1, h2, h3, h4⟩
  have hTl : T.data.toList.length ≤ 16384 := by rw [len_of]; exact hT
  have hok : R.ok = true := room_ok hTl o (by rw [ord300]; omega)
  refine ⟨t, R, x', P', hR, o, hok, ?_, h1, ht.store hTl o hok, ht.keep o, h2, h3, ?_⟩
  · rcases h4 with ⟨_, h4⟩ | ⟨h4, _⟩
    · exact h4
    · rw [hok] at h4; cases h4
  · have := o.most
    have := (rows_sum hTl).1
    omega
/-- bytes are stored over nothing -/
theorem store_first (h : TB w0 l b g m c pl [] 300 1 0 M (fun _ => False) x P w) (T : ByteArray) (hT : T.size ≤ 16384) :
    Calls Tryz.prog 22 #[srcV l, .agg #[.int .i64 0, .int .i64 0], .string T, .pointer (some ⟨pl, 0, none⟩)] w fun e w' => ∃ (t : Nat) (M' : Mem) (lv : List (List Nat)) (x' : VS) (P' : Nat → Prop), e = .returned (.tuple #[.agg #[.int .i64 (rootOf lv : Nat), .int .i64 (T.size : Nat)], .int .i64 0]) ∧ TB w0 l b g m c pl [] 300 1 t M' (fun _ => False) x' P' w' ∧ TT [] 300 1 t M' (fun _ => False) lv T.data.toList ∧ KK P w w' ∧ (∀ j, P' j → P j ∨ w.heap.size ≤ j) ∧ t ≤ 72 := by
  have C := store_next h (TT.nil [] 300 1 0 M (fun _ => False) (fun _ h => h.elim)) T hT (by omega)
  refine (C : Calls Tryz.prog 22 #[srcV l, .agg #[.int .i64 0, .int .i64 0], .string T, .pointer (some ⟨pl, 0, none⟩)] w _).mono ?_
  rintro e w' ⟨t, R, x', P', _, _, _, he, h1, h2, _, h3, h4, h5⟩
  rw [Nat.zero_add] at h1 h2
  exact ⟨t, R.mem, R.lv, x', P', he, h1, h2, h3, h4, h5⟩
theorem left300 (h : TB w0 l b g m c pl [] 300 1 k M (fun _ => False) x P w) :
    Calls Tryz.prog 23 #[.pointer (some ⟨pl, 0, none⟩)] w fun e w' => e = .returned (.int .i64 (299 - k : Nat)) ∧ w = w' := by
  have C := h.left
  rwa [ord300] at C
theorem load_law (h : TB w0 l b g m c pl [] 300 1 k M (fun _ => False) x P w) {T : ByteArray} (ht : TT [] 300 1 k M (fun _ => False) lv T.data.toList) :
    Calls Tryz.prog 15 #[srcV l, .agg #[.int .i64 (rootOf lv : Nat), .int .i64 (T.size : Nat)]] w fun e w' => ∃ x', e = .returned (.tuple #[.string T, .int .i64 0]) ∧ TB w0 l b g m c pl [] 300 1 k M (fun _ => False) x' P w' ∧ VKeep w w' := by
  have C := h.load ht
  rw [len_of, bsL_data] at C
  refine (C : Calls Tryz.prog 15 #[srcV l, .agg #[.int .i64 (rootOf lv : Nat), .int .i64 (T.size : Nat)]] w _).mono ?_
  rintro e w' ⟨rfl, x', h1, h2⟩
  exact ⟨x', rfl, h1, h2⟩
theorem reach_law (h : TB w0 l b g m c pl [] 300 1 k M (fun _ => False) x P w) {T : ByteArray} (ht : TT [] 300 1 k M (fun _ => False) lv T.data.toList) :
    Calls Tryz.prog 17 #[srcV l, .agg #[.int .i64 (rootOf lv : Nat), .int .i64 (T.size : Nat)]] w fun e w' => ∃ v x', e = .returned (.tuple #[v, .int .i64 0]) ∧ w'.ownsRow w.heap.size 3 1 v (orderT lv).length (ints (orderT lv)) ∧ TB w0 l b g m c pl [] 300 1 k M (fun _ => False) x' P w' ∧ VKeep w w' := by
  have C := h.reach ht
  rw [len_of] at C
  refine (C : Calls Tryz.prog 17 #[srcV l, .agg #[.int .i64 (rootOf lv : Nat), .int .i64 (T.size : Nat)]] w _).mono ?_
  rintro e w' ⟨v, rfl, h1, x', h2, h3⟩
  exact ⟨v, x', rfl, h1, h2, h3⟩
end
/-- how many blocks two trees share -/
theorem shared_is {u : List UInt8} {n f k t : Nat} {M : Mem} {W : Nat → Prop} {lv : List (List Nat)} {b bt : List UInt8} {R : LvR} (h : TT u n f k M W lv b) (h2 : TT u n f (k + t) R.mem W R.lv bt) (o : LvOk lv.flatten lv bt (rowsL bt.length) M ((ord u n f).drop k) R t) (hok : R.ok = true) :
    ((orderT R.lv).map fun y => (orderT lv).count y).sum + t = (rowsL bt.length).sum := by
  rw [shared_sum _ h.order.1]
  have h3 : (orderT R.lv).countP (fun y => decide (y ∈ orderT lv)) = R.lv.flatten.countP (fun y => decide (y ∈ lv.flatten)) := by
    rw [(orderT_perm h2.tree).countP_eq]
    refine List.countP_congr (fun y _ => ?_)
    simp [(orderT_perm h.tree).mem_iff]
  rw [h3]
  exact o.count hok
theorem same_none {u : List UInt8} {n f k t : Nat} {M : Mem} {W : Nat → Prop} {lv : List (List Nat)} {T : ByteArray} {R : LvR} (h : TT u n f k M W lv T.data.toList) (hR : storeLv (decide ((rowsL T.size).length = lv.length)) (rowsL T.size) true lv T.data.toList T.data.toList M ((ord u n f).drop k) = R) (o : LvOk lv.flatten lv T.data.toList (rowsL T.data.toList.length) M ((ord u n f).drop k) R t) : t = 0 := by
  have h1 := store_same 3 true ((ord u n f).drop k) h.tree (by have := h.len; unfold cuts; omega)
  have h2 : lv.map List.length = rowsL T.data.toList.length := tree_rows 3 h.tree (by have := h.len; unfold cuts; omega)
  have h3 : decide ((rowsL T.size).length = lv.length) = true := by
    rw [decide_eq_true_eq, ← len_of T, ← h2, List.length_map]
  rw [h3, ← len_of T] at hR
  have h4 : R = ⟨true, lv, M, (ord u n f).drop k⟩ := hR.symm.trans h1
  have h5 := o.free
  have h6 := o.le
  rw [h4] at h5
  have h7 := congrArg List.length h5
  simp only [List.length_drop] at h7 h6
  omega
theorem count_next (L : List Nat) (x j : Nat) (h : j < L.length) : (L.take (j + 1)).count x = (L.take j).count x + if L[j] = x then 1 else 0 := by
  rw [List.take_succ_eq_append_getElem h, List.count_append, List.count_singleton]
  by_cases e : L[j] = x <;> simp [e]
end Go.Proofs.YtaniajldnkcbjaaGreat

