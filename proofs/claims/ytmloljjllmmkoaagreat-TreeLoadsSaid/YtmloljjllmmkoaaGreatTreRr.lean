/-
  The reference's tree as it was read: its object; a block of chunks that is not read.
-/
import Derived.Test.YtmloljjllmmkoaaGreatTreRf
import Derived.Test.YtmloljjllmmkoaaGreatTreLo
import Derived.Test.YtmloljjllmmkoaaGreatMD
import Derived.Test.YtmloljjllmmkoaaGreatBX
namespace Go.Proofs.YtmloljjllmmkoaaGreat
open Go.ChangeShapes Go.WideShapes Go.ChangeAt Go.RowKit Go.Shelf Go Go.Maps SM PL AL TR

def TrO (ov : Value) (D : ByteArray) (a b c : Value) (e : Int) : Obj := .cells #[ov, .string D, a, b, c, .int .i64 e] 75 (0, 0)
section
variable {p : Nat} {ov a b c : Value} {D : ByteArray} {e : Int} {w : World}
theorem TrO.c0 (h : w.heap[p]? = some (TrO ov D a b c e)) : w.cell? ⟨p, 0, none⟩ = some ov := by simp [World.cell?, h, TrO]
theorem TrO.c1 (h : w.heap[p]? = some (TrO ov D a b c e)) : w.cell? ⟨p, 1, none⟩ = some (.string D) := by simp [World.cell?, h, TrO]
theorem TrO.c2 (h : w.heap[p]? = some (TrO ov D a b c e)) : w.cell? ⟨p, 2, none⟩ = some a := by simp [World.cell?, h, TrO]
theorem TrO.c3 (h : w.heap[p]? = some (TrO ov D a b c e)) : w.cell? ⟨p, 3, none⟩ = some b := by simp [World.cell?, h, TrO]
theorem TrO.c4 (h : w.heap[p]? = some (TrO ov D a b c e)) : w.cell? ⟨p, 4, none⟩ = some c := by simp [World.cell?, h, TrO]
theorem TrO.c5 (h : w.heap[p]? = some (TrO ov D a b c e)) : w.cell? ⟨p, 5, none⟩ = some (.int .i64 e) := by simp [World.cell?, h, TrO]
theorem TrO.fr (h : w.heap[p]? = some (TrO ov D a b c e)) (i : Nat) : w.frozen? ⟨p, i, none⟩ = false := by simp [World.frozen?, h, TrO]
theorem TrO.set0 (h : w.heap[p]? = some (TrO ov D a b c e)) (v : Value) : (w.setCell ⟨p, 0, none⟩ v).heap[p]? = some (TrO v D a b c e) := by rw [heap_set h]; rfl
theorem TrO.set1 (h : w.heap[p]? = some (TrO ov D a b c e)) (v : ByteArray) : (w.setCell ⟨p, 1, none⟩ (.string v)).heap[p]? = some (TrO ov v a b c e) := by rw [heap_set h]; rfl
theorem TrO.set2 (h : w.heap[p]? = some (TrO ov D a b c e)) (v : Value) : (w.setCell ⟨p, 2, none⟩ v).heap[p]? = some (TrO ov D v b c e) := by rw [heap_set h]; rfl
theorem TrO.set3 (h : w.heap[p]? = some (TrO ov D a b c e)) (v : Value) : (w.setCell ⟨p, 3, none⟩ v).heap[p]? = some (TrO ov D a v c e) := by rw [heap_set h]; rfl
theorem TrO.set4 (h : w.heap[p]? = some (TrO ov D a b c e)) (v : Value) : (w.setCell ⟨p, 4, none⟩ v).heap[p]? = some (TrO ov D a b v e) := by rw [heap_set h]; rfl
theorem TrO.set5 (h : w.heap[p]? = some (TrO ov D a b c e)) (v : Int) : (w.setCell ⟨p, 5, none⟩ (.int .i64 v)).heap[p]? = some (TrO ov D a b c v) := by rw [heap_set h]; rfl
end
/-- a level's row: some numbers, apart from the order's block -/
def LvOk (B N : Nat) (ov u : Value) (w : World) : Prop := ∃ L : List Int, L.length ≤ N ∧ w.ownsRow B 3 1 u L.length (intVals L) ∧ ∀ j, u.ownBlock = some j → ov.ownBlock ≠ some j
/-- a tree that is being read: its blocks in order, its bytes; what its levels hold is some rows -/
structure TrAt (B p : Nat) (O : List Int) (D : ByteArray) (e : Int) (N : Nat) (w : World) : Prop where
  low : B ≤ p
  len : O.length ≤ N
  dlen : D.size ≤ 240 * N
  obj : ∃ ov a b c, w.heap[p]? = some (TrO ov D a b c e) ∧ w.ownsRow B 3 1 ov O.length (intVals O) ∧ LvOk B N ov a w ∧ LvOk B N ov b w ∧ LvOk B N ov c w

/-! ### what the reference's volume keeps for itself -/
theorem keys_use {L : List (Int × ByteArray)} {k : Int} (hn : (CI.keysL L).Nodup) : (CI.keysL (CI.useL L k)).Nodup ∧ (CI.useL L k).length ≤ L.length := by
  unfold CI.useL
  cases hg : CI.getL L k with
  | none => exact ⟨hn, Nat.le_refl _⟩
  | some v =>
    refine ⟨CI.nodup_put hn k v, ?_⟩
    unfold CI.getL at hg
    obtain ⟨y, hy, _⟩ := Option.map_eq_some_iff.1 hg
    have hm := List.mem_of_find?_eq_some hy
    have hp := List.find?_some hy
    have : (CI.dropL L k).length < L.length := by
      unfold CI.dropL
      exact List.length_filter_lt_length_iff_exists.2 ⟨y, hm, by simpa using hp⟩
    rw [List.length_cons]
    exact this
theorem FineV.read {x : VS} (h : FineV x) (v : Int) : FineV (x.read v).2.2 := by
  unfold VS.read
  split
  · exact h
  · split
    · exact h
    · split
      · exact ⟨h.ok, h.big, h.nle, Nat.le_trans (keys_use h.nod).2 h.len, (keys_use h.nod).1⟩
      · split
        · exact ⟨h.ok, h.big, h.nle, h.len, h.nod⟩
        · split
          · rename_i P _
            exact ⟨h.ok, h.big, h.nle, by unfold CI.putL; rw [List.length_take]; exact Nat.min_le_left _ _, (List.Sublist.map _ (List.take_sublist 32 _)).nodup (CI.nodup_put h.nod v P)⟩
          · exact h

/-! ### which blocks a reading turns -/
def TRK (t : TypeId) : Prop := t = 75 ∨ t = 3
def RT8 (B0 B : Nat) (w w' : World) : Prop := ∃ F : Nat → Prop, Stir F w w' ∧ ∀ i, F i → ∃ C t f, w.heap[i]? = some (Obj.cells C t f) ∧ ((K8 t ∧ B0 ≤ i) ∨ (TRK t ∧ B ≤ i))
section
variable {B0 B : Nat} {w w' w'' : World}
theorem RT8.refl (B0 B : Nat) (w : World) : RT8 B0 B w w := ⟨fun _ => False, Stir.refl _ w, fun _ h => h.elim⟩
theorem RT8.of_below (h : Below w.heap.size w w') : RT8 B0 B w w' := ⟨fun _ => False, Stir.of_below h, fun _ h => h.elim⟩
theorem RT8.of_rs8 (h : RS8 B0 w w') : RT8 B0 B w w' := by
  obtain ⟨F, hs, hF⟩ := h
  exact ⟨F, hs, fun i hi => by obtain ⟨C, t, f, hC, hk, hb⟩ := hF i hi; exact ⟨C, t, f, hC, .inl ⟨hk, hb⟩⟩⟩
theorem RT8.of_own {G : Nat → Prop} (s : Stir G w w') (hG : ∀ i, G i → ∃ C t f, w.heap[i]? = some (Obj.cells C t f) ∧ TRK t ∧ B ≤ i) : RT8 B0 B w w' :=
  ⟨G, s, fun i hi => by obtain ⟨C, t, f, hC, hk, hb⟩ := hG i hi; exact ⟨C, t, f, hC, .inr ⟨hk, hb⟩⟩⟩
theorem RT8.trans (h : RT8 B0 B w w') (k : RT8 B0 B w' w'') : RT8 B0 B w w'' := by
  obtain ⟨F, hs, hF⟩ := h
  obtain ⟨G, ks, kG⟩ := k
  refine ⟨fun i => F i ∨ (G i ∧ i < w.heap.size), (hs.weaken (fun _ e => .inl e)).trans ks (fun i e => ?_), ?_⟩
  · by_cases hi : i < w.heap.size
    · exact .inl (.inr ⟨e, hi⟩)
    · exact .inr (by omega)
  · rintro i (e | ⟨e, hi⟩)
    · exact hF i e
    · by_cases hf : F i
      · exact hF i hf
      · obtain ⟨C, t, f, hC, hr⟩ := kG i e
        rw [hs.block i hi hf] at hC
        exact ⟨C, t, f, hC, hr⟩
theorem RT8.size (k : RT8 B0 B w w') : w.heap.size ≤ w'.heap.size := by obtain ⟨F, hs, _⟩ := k; exact hs.size
end
section
variable {q r B0 B c : Nat} {zs : List Int} {v0 v2 : Value} {x : VS} {w w' : World} {G : Nat → Prop}
/-- the reference's volume, where a tree's own blocks are turned -/
theorem RVC.own (h : RVC q r B0 zs v0 v2 x c w) (s : Stir G w w') (hG : ∀ i, G i → ∃ C t f, w.heap[i]? = some (Obj.cells C t f) ∧ TRK t ∧ B ≤ i) (hv2 : ∀ j, v2.ownBlock = some j → j < B) : RVC q r B0 zs v0 v2 x c w' := by
  have key : ∀ (i : Nat) (C : Array Value) (t : TypeId) (f : Nat × Nat), w.heap[i]? = some (Obj.cells C t f) → ¬ TRK t → ¬ G i := fun i C t f hC hk hf => by
    obtain ⟨C', t', f', h', ht, _⟩ := hG i hf
    exact hk ((kind_eq hC h') ▸ ht)
  obtain ⟨v1, kp, hr⟩ := h.ref
  obtain ⟨F, v, hc⟩ := h.kept
  refine ⟨s.keep h.obj (key _ _ _ _ h.obj (by unfold TRK; decide)),
    ⟨v1, kp, ⟨s.keep hr.obj (key _ _ _ _ hr.obj (by unfold TRK; decide)), owns_stay hr.st s (fun j hj => ?_), owns_stay hr.lo s (fun j hj => ?_), owns_stay hr.ba s (fun j hj => ?_), hr.bads, hr.few, hr.keep, hr.kple, hr.low⟩⟩,
    ⟨F, v, ⟨s.keep hc.obj (key _ _ _ _ hc.obj (by unfold TRK; decide)), owns_stay hc.row s (fun j hj => ?_), hc.own, hc.apart, hc.low⟩⟩, h.low⟩
  · obtain ⟨C, hC⟩ := owns_block hr.st hj
    exact key _ _ _ _ hC (by unfold TRK; decide)
  · obtain ⟨C, hC⟩ := owns_block hr.lo hj
    exact key _ _ _ _ hC (by unfold TRK; decide)
  · intro hf
    obtain ⟨_, _, _, _, _, hb⟩ := hG j hf
    have := hv2 j hj
    omega
  · obtain ⟨C, hC⟩ := owns_block hc.row hj
    exact key _ _ _ _ hC (by unfold TRK; decide)
end

/-! ### a tree that is read on -/
section
variable {B B0 p N N' : Nat} {O : List Int} {D : ByteArray} {e : Int} {w w' : World} {ov u : Value}
theorem LvOk.keep (h : LvOk B N ov u w) (hk : ∀ j, u.ownBlock = some j → w'.heap[j]? = w.heap[j]?) : LvOk B N ov u w' := by
  obtain ⟨L, h1, h2, h3⟩ := h
  exact ⟨L, h1, owns_keep h2 hk, h3⟩
theorem LvOk.le (h : LvOk B N ov u w) (hN : N ≤ N') : LvOk B N' ov u w := by
  obtain ⟨L, h1, h2, h3⟩ := h
  exact ⟨L, Nat.le_trans h1 hN, h2, h3⟩
theorem LvOk.blk (h : LvOk B N ov u w) {j : Nat} (hj : u.ownBlock = some j) : ∃ C, w.heap[j]? = some (.cells C 3 (0, 0)) := by
  obtain ⟨L, h1, h2, h3⟩ := h
  exact owns_block h2 hj
theorem TrAt.le (h : TrAt B p O D e N w) (hN : N ≤ N') : TrAt B p O D e N' w := by
  obtain ⟨ov, a, b, c, h1, h2, h3, h4, h5⟩ := h.obj
  exact ⟨h.low, Nat.le_trans h.len hN, by have := h.dlen; omega, ov, a, b, c, h1, h2, h3.le hN, h4.le hN, h5.le hN⟩
theorem TrAt.keep (h : TrAt B p O D e N w) (hk : ∀ (i : Nat) (C : Array Value) (t : TypeId) (f : Nat × Nat), w.heap[i]? = some (Obj.cells C t f) → TRK t → w'.heap[i]? = some (Obj.cells C t f)) : TrAt B p O D e N w' := by
  obtain ⟨ov, a, b, c, h1, h2, h3, h4, h5⟩ := h.obj
  have rk : ∀ {n : Nat} {v : Value} {xs : List Value}, w.ownsRow B 3 1 v n xs → ∀ j, v.ownBlock = some j → w'.heap[j]? = w.heap[j]? := fun hr j hj => by
    obtain ⟨C, hC⟩ := owns_block hr hj
    rw [hC]
    exact hk _ _ _ _ hC (.inr rfl)
  exact ⟨h.low, h.len, h.dlen, ov, a, b, c, hk _ _ _ _ h1 (.inl rfl), owns_keep h2 (rk h2), h3.keep (fun j hj => by obtain ⟨L, _, k, _⟩ := h3; exact rk k j hj), h4.keep (fun j hj => by obtain ⟨L, _, k, _⟩ := h4; exact rk k j hj), h5.keep (fun j hj => by obtain ⟨L, _, k, _⟩ := h5; exact rk k j hj)⟩
theorem TrAt.rs8 (h : TrAt B p O D e N w) (k : RS8 B0 w w') : TrAt B p O D e N w' :=
  h.keep (fun _ _ _ _ hC ht => k.keep hC (by rcases ht with rfl | rfl <;> (unfold K8; decide)))
theorem TrAt.below (h : TrAt B p O D e N w) (k : Below w.heap.size w w') : TrAt B p O D e N w' := h.keep (fun _ _ _ _ hC _ => keeps_of k hC)
/-- its bytes and its error are set -/
theorem TrAt.setE (h : TrAt B p O D e N w) (e' : Int) : TrAt B p O D e' N (w.setCell ⟨p, 5, none⟩ (.int .i64 e')) := by
  obtain ⟨ov, a, b, c, h1, h2, h3, h4, h5⟩ := h.obj
  have rk : ∀ {u : Value}, LvOk B N ov u w → LvOk B N ov u (w.setCell ⟨p, 5, none⟩ (.int .i64 e')) := fun h => by
    obtain ⟨L, k1, k2, k3⟩ := h
    exact ⟨L, k1, owns_other k2 h1 (by decide) _, k3⟩
  exact ⟨h.low, h.len, h.dlen, ov, a, b, c, TrO.set5 h1 e', owns_other h2 h1 (by decide) _, rk h3, rk h4, rk h5⟩
theorem TrAt.setD (h : TrAt B p O D e N w) (D' : ByteArray) (hD : D'.size ≤ 240 * N) : TrAt B p O D' e N (w.setCell ⟨p, 1, none⟩ (.string D')) := by
  obtain ⟨ov, a, b, c, h1, h2, h3, h4, h5⟩ := h.obj
  have rk : ∀ {u : Value}, LvOk B N ov u w → LvOk B N ov u (w.setCell ⟨p, 1, none⟩ (.string D')) := fun h => by
    obtain ⟨L, k1, k2, k3⟩ := h
    exact ⟨L, k1, owns_other k2 h1 (by decide) _, k3⟩
  exact ⟨h.low, h.len, hD, ov, a, b, c, TrO.set1 h1 D', owns_other h2 h1 (by decide) _, rk h3, rk h4, rk h5⟩
theorem TrAt.set (h : TrAt B p O D e N w) (i : Nat) (v : Value) : Stir (· = p) w (w.setCell ⟨p, i, none⟩ v) ∧ ∀ j, j = p → ∃ C t f, w.heap[j]? = some (Obj.cells C t f) ∧ TRK t ∧ B ≤ j := by
  obtain ⟨ov, a, b, c, h1, _⟩ := h.obj
  exact ⟨(Stir.refl (· = p) w).set (.inl rfl) v, fun j e => e ▸ ⟨_, _, _, h1, .inl rfl, h.low⟩⟩
/-- a level's row is set to a new one -/
theorem TrAt.setL (h : TrAt B p O D e N w) {w3 : World} (hB : Below w.heap.size w w3) {v3 : Value} {L : List Int} (hL : L.length ≤ N) (hB2 : B ≤ w.heap.size) (hr : w3.ownsRow w.heap.size 3 1 v3 L.length (intVals L)) {j : Nat} (hj : j < 3) :
    TrAt B p O D e N (w3.setCell ⟨p, 2 + j, none⟩ v3) := by
  obtain ⟨ov, a, b, c, h1, h2, h3, h4, h5⟩ := h.obj
  have g1 := keeps_of hB h1
  have g2 := owns_below h2 hB
  have rk : ∀ {u : Value}, LvOk B N ov u w → LvOk B N ov u (w3.setCell ⟨p, 2 + j, none⟩ v3) := fun h => by
    obtain ⟨L, k1, k2, k3⟩ := h
    exact ⟨L, k1, owns_other (owns_below k2 hB) g1 (by decide) _, k3⟩
  have hn : LvOk B N ov v3 (w3.setCell ⟨p, 2 + j, none⟩ v3) := ⟨L, hL, CI.row_low (owns_other hr g1 (by decide) _) hB2, fun i hi e => by
    have k1 := (hr.lt i hi).1
    obtain ⟨C, hC⟩ := owns_block h2 e
    have := lt_of_heap hC
    omega⟩
  refine ⟨h.low, h.len, h.dlen, ?_⟩
  obtain rfl | rfl | rfl : j = 0 ∨ j = 1 ∨ j = 2 := by omega
  · exact ⟨ov, v3, b, c, TrO.set2 g1 v3, owns_other g2 g1 (by decide) _, hn, rk h4, rk h5⟩
  · exact ⟨ov, a, v3, c, TrO.set3 g1 v3, owns_other g2 g1 (by decide) _, rk h3, hn, rk h5⟩
  · exact ⟨ov, a, b, v3, TrO.set4 g1 v3, owns_other g2 g1 (by decide) _, rk h3, rk h4, hn⟩
end
end Go.Proofs.YtmloljjllmmkoaaGreat

