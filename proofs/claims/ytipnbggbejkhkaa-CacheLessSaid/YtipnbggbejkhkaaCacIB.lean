/-
  One instance of a cache, in memory: a key's link, a link out of the ring and into it.
-/
import Derived.Test.YtipnbggbejkhkaaCacW
import Derived.Test.YtipnbggbejkhkaaCacIA
import Derived.BigRegion
import Derived.RegionTactic
namespace Go.Proofs.Ytipnbggbejkhkaa.CI
open Go.RowKit Go Go.Maps

/-- a link, in memory -/
def LObj (x : Int × ByteArray) (n p : Value) : Obj := .cells #[.int .i64 x.1, .string x.2, n, p] 56 (0, 0)
def ptr (b : Nat) : Value := .pointer (some ⟨b, 0, none⟩)
/-- a cache, in memory -/
def CObj (room m r : Nat) : Obj := .cells #[.int .i64 room, .map (some m), ptr r] 59 (0, 0)
section
variable {w : World} {b : Nat} {x : Int × ByteArray} {n p : Value}
theorem LObj.c0 (h : w.heap[b]? = some (LObj x n p)) : w.cell? ⟨b, 0, none⟩ = some (.int .i64 x.1) := by simp [World.cell?, h, LObj]
theorem LObj.c1 (h : w.heap[b]? = some (LObj x n p)) : w.cell? ⟨b, 1, none⟩ = some (.string x.2) := by simp [World.cell?, h, LObj]
theorem LObj.c2 (h : w.heap[b]? = some (LObj x n p)) : w.cell? ⟨b, 2, none⟩ = some n := by simp [World.cell?, h, LObj]
theorem LObj.c3 (h : w.heap[b]? = some (LObj x n p)) : w.cell? ⟨b, 3, none⟩ = some p := by simp [World.cell?, h, LObj]
theorem LObj.fr (h : w.heap[b]? = some (LObj x n p)) (i : Nat) : w.frozen? ⟨b, i, none⟩ = false := by simp [World.frozen?, h, LObj]
theorem LObj.set2 (h : w.heap[b]? = some (LObj x n p)) (v : Value) : (w.setCell ⟨b, 2, none⟩ v).heap[b]? = some (LObj x v p) := by rw [heap_set h]; rfl
theorem LObj.set3 (h : w.heap[b]? = some (LObj x n p)) (v : Value) : (w.setCell ⟨b, 3, none⟩ v).heap[b]? = some (LObj x n v) := by rw [heap_set h]; rfl
variable {room m r : Nat}
theorem CObj.c0 (h : w.heap[b]? = some (CObj room m r)) : w.cell? ⟨b, 0, none⟩ = some (.int .i64 room) := by simp [World.cell?, h, CObj]
theorem CObj.c1 (h : w.heap[b]? = some (CObj room m r)) : w.cell? ⟨b, 1, none⟩ = some (.map (some m)) := by simp [World.cell?, h, CObj]
theorem CObj.c2 (h : w.heap[b]? = some (CObj room m r)) : w.cell? ⟨b, 2, none⟩ = some (.pointer (some ⟨r, 0, none⟩)) := by simp [World.cell?, h, CObj, ptr]
end

/-- the links' blocks, and those that stand before and behind each -/
def Nodes (w : World) (S : List Nat) (nd : Nat → Int × ByteArray) (nx pv : Nat → Nat) : Prop := ∀ b ∈ S, w.heap[b]? = some (LObj (nd b) (ptr (nx b)) (ptr (pv b)))
section
variable {w : World} {S : List Nat} {nd : Nat → Int × ByteArray} {nx pv : Nat → Nat}
theorem Nodes.set2 (h : Nodes w S nd nx pv) (p n : Nat) : Nodes (w.setCell ⟨p, 2, none⟩ (ptr n)) S nd (upd nx p n) pv := by
  intro b hb
  by_cases e : b = p
  · subst e; rw [upd_same]; exact LObj.set2 (h b hb) _
  · rw [upd_other _ _ e]; exact heap_set_other (h b hb) e _
theorem Nodes.set3 (h : Nodes w S nd nx pv) (p n : Nat) : Nodes (w.setCell ⟨p, 3, none⟩ (ptr n)) S nd nx (upd pv p n) := by
  intro b hb
  by_cases e : b = p
  · subst e; rw [upd_same]; exact LObj.set3 (h b hb) _
  · rw [upd_other _ _ e]; exact heap_set_other (h b hb) e _
theorem Nodes.sub (h : Nodes w S nd nx pv) {S' : List Nat} (hs : ∀ b ∈ S', b ∈ S) : Nodes w S' nd nx pv := fun b hb => h b (hs b hb)
theorem Nodes.drewN (h : Nodes w S nd nx pv) (n : Nat) : Nodes (w.drewN n) S nd nx pv := h
end

/-- a ring, in memory -/
structure RingAt (r : Nat) (T : List Nat) (nd : Nat → Int × ByteArray) (nx pv : Nat → Nat) (w : World) : Prop where
  ring : Ringed r T nx pv
  nodes : Nodes w (r :: T) nd nx pv

section
variable {w : World} {r b : Nat} {T : List Nat} {nd : Nat → Int × ByteArray} {nx pv : Nat → Nat}
theorem RingAt.stay {w' : World} {F : Nat → Prop} (h : RingAt r T nd nx pv w) (k : Stir F w w') (hn : ∀ b ∈ r :: T, ¬ F b) : RingAt r T nd nx pv w' :=
  ⟨h.ring, fun b hb => k.keep (h.nodes b hb) (hn b hb)⟩

set_option maxRecDepth 100000 in
set_option maxHeartbeats 1000000 in
theorem leave_raw (b p n : Nat) (x y z : Int × ByteArray) (p1 p2 n1 n2 : Value) (w : World) (hb : w.heap[b]? = some (LObj x (ptr n) (ptr p)))
    (hp : w.heap[p]? = some (LObj y p1 p2)) (hn : w.heap[n]? = some (LObj z n1 n2)) :
    Calls Try.prog 26 #[.pointer (some ⟨b, 0, none⟩)] w fun e w' => e = .returned (.tuple #[]) ∧ ∃ N, w' = ((w.setCell ⟨p, 2, none⟩ (ptr n)).setCell ⟨n, 3, none⟩ (ptr p)).drewN N := by
  have b2 := LObj.c2 hb
  have b3 := LObj.c3 hb
  have q2 := LObj.c2 hp
  have fp := LObj.fr hp 2
  have r3 := LObj.c3 hn
  have fn := LObj.fr hn 3
  unfold ptr at b2 b3 ⊢
  clear hb hp hn
  go_enter Try.func26, Try.ntmps26
  go_wp2
  go_region
  all_goals (go_end0; exact ⟨rfl, 1, rfl⟩)

/-- a link leaves the ring -/
theorem leave_any (h : RingAt r T nd nx pv w) (hb : b ∈ T) :
    Calls Try.prog 26 #[.pointer (some ⟨b, 0, none⟩)] w fun e w' => e = .returned (.tuple #[]) ∧ RingAt r (T.filter (· ≠ b)) nd (upd nx (pv b) (nx b)) (upd pv (nx b) (pv b)) w' ∧
      w'.heap[b]? = some (LObj (nd b) (ptr (nx b)) (ptr (pv b))) ∧ Stir (· ∈ r :: T) w w' := by
  obtain ⟨hp, hpb⟩ := h.ring.prev_mem hb
  obtain ⟨hn, hnb⟩ := h.ring.next_mem hb
  have hbT : b ∈ r :: T := List.mem_cons_of_mem _ hb
  refine (leave_raw b (pv b) (nx b) _ _ _ _ _ _ _ w (h.nodes b hbT) (h.nodes _ hp) (h.nodes _ hn)).mono ?_
  rintro e w' ⟨rfl, N, rfl⟩
  refine ⟨rfl, ⟨h.ring.leave hb, ?_⟩, ?_, ?_⟩
  · exact (((h.nodes.set2 (pv b) (nx b)).set3 (nx b) (pv b)).sub (fun i hi => by
      rcases List.mem_cons.1 hi with rfl | hi
      · simp
      · exact List.mem_cons_of_mem _ (List.mem_filter.1 hi).1)).drewN N
  · exact heap_set_other (heap_set_other (h.nodes b hbT) (Ne.symm hpb) _) (Ne.symm hnb) _
  · exact (((Stir.refl _ w).set (Or.inl hp) _).set (Or.inl hn) _).drewN N

set_option maxRecDepth 100000 in
set_option maxHeartbeats 1000000 in
theorem follow_raw (b r q : Nat) (x y z : Int × ByteArray) (p2 n1 n2 x1 x2 : Value) (hbr : b ≠ r) (hbq : b ≠ q) (w : World) (hb : w.heap[b]? = some (LObj x x1 x2))
    (hr : w.heap[r]? = some (LObj y (ptr q) p2)) (hq : w.heap[q]? = some (LObj z n1 n2)) :
    Calls Try.prog 27 #[.pointer (some ⟨b, 0, none⟩), .pointer (some ⟨r, 0, none⟩)] w fun e w' => e = .returned (.tuple #[]) ∧
      ∃ N, w' = ((((w.setCell ⟨b, 3, none⟩ (ptr r)).setCell ⟨b, 2, none⟩ (ptr q)).setCell ⟨r, 2, none⟩ (ptr b)).setCell ⟨q, 3, none⟩ (ptr b)).drewN N := by
  have b2 := LObj.c2 hb
  have b3 := LObj.c3 hb
  have fb2 := LObj.fr hb 2
  have fb3 := LObj.fr hb 3
  have q2 := LObj.c2 hr
  have fp := LObj.fr hr 2
  have r3 := LObj.c3 hq
  have fn := LObj.fr hq 3
  have hrb := Ne.symm hbr
  have hqb := Ne.symm hbq
  unfold ptr at q2 ⊢
  clear hb hr hq
  go_enter Try.func27, Try.ntmps27
  go_wp2
  go_region
  all_goals (go_end0; exact ⟨rfl, 1, rfl⟩)

/-- a link comes into the ring, behind the one that closes it -/
theorem follow_any (h : RingAt r T nd nx pv w) (hb : b ∉ r :: T) (x : Int × ByteArray) (x1 x2 : Value) (ho : w.heap[b]? = some (LObj x x1 x2)) :
    Calls Try.prog 27 #[.pointer (some ⟨b, 0, none⟩), .pointer (some ⟨r, 0, none⟩)] w fun e w' => e = .returned (.tuple #[]) ∧
      RingAt r (b :: T) (upd nd b x) (upd (upd nx b (nx r)) r b) (upd (upd pv b r) (nx r) b) w' ∧ Stir (· ∈ r :: b :: T) w w' := by
  have hq := h.ring.ring_next
  have hbr : b ≠ r := fun e => hb (by simp [e])
  have hbq : b ≠ nx r := fun e => hb (e ▸ hq)
  refine (follow_raw b r (nx r) x _ _ _ _ _ _ _ hbr hbq w ho (h.nodes r (by simp)) (h.nodes _ hq)).mono ?_
  rintro e w' ⟨rfl, N, rfl⟩
  have hN : Nodes ((w.setCell ⟨b, 3, none⟩ (ptr r)).setCell ⟨b, 2, none⟩ (ptr (nx r))) (r :: b :: T) (upd nd b x) (upd nx b (nx r)) (upd pv b r) := by
    intro i hi
    by_cases e : i = b
    · subst e
      rw [upd_same, upd_same, upd_same]
      exact LObj.set2 (LObj.set3 ho _) _
    · rw [upd_other _ _ e, upd_other _ _ e, upd_other _ _ e]
      refine heap_set_other (heap_set_other (h.nodes i ?_) e _) e _
      simp at hi ⊢
      rcases hi with hi | hi | hi
      · exact Or.inl hi
      · exact absurd hi e
      · exact Or.inr hi
  refine ⟨rfl, ⟨h.ring.follow hb, ((hN.set2 r b).set3 (nx r) b).drewN N⟩, ?_⟩
  have m : nx r ∈ r :: b :: T := by
    simp at hq ⊢
    rcases hq with hq | hq
    · exact Or.inl hq
    · exact Or.inr (Or.inr hq)
  exact (((((Stir.refl _ w).set (Or.inl (by simp)) _).set (Or.inl (by simp)) _).set (Or.inl (by simp)) _).set (Or.inl m) _).drewN N
end

/-! ### The cache -/
/-- a cache, with all that it stands on -/
structure CacheAt (c m r room : Nat) (T : List Nat) (nd : Nat → Int × ByteArray) (nx pv : Nat → Nat) (D : DataW Unit) (w : World) : Prop where
  obj : w.heap[c]? = some (CObj room m r)
  map : w.ownsMap Try.prog 3 ptrElem m T.length D
  size : Maps.size D = T.length
  look : ∀ k z, D.atKey (lit k) z = match blockOf T nd k with | some b => .lit (.int .i64 b) | none => z
  ring : RingAt r T nd nx pv w
  keys : (T.map fun b => (nd b).1).Nodup
  ok : ∀ b ∈ T, Ok (nd b).1

/-- its blocks -/
def Foot (c m r : Nat) (T : List Nat) (k : Nat) : Prop := k = c ∨ k = m ∨ k ∈ r :: T

section
variable {w w' : World} {c m r room : Nat} {T : List Nat} {nd : Nat → Int × ByteArray} {nx pv : Nat → Nat} {D : DataW Unit}
theorem CacheAt.c_map (h : CacheAt c m r room T nd nx pv D w) : c ≠ m := by
  rintro rfl
  obtain ⟨es, clock, hb, _⟩ := h.map
  rw [h.obj] at hb
  cases hb
theorem CacheAt.c_ring (h : CacheAt c m r room T nd nx pv D w) : c ∉ r :: T := by
  intro e
  have := h.ring.nodes c e
  rw [h.obj] at this
  simp [CObj, LObj] at this
theorem CacheAt.m_ring (h : CacheAt c m r room T nd nx pv D w) : m ∉ r :: T := by
  intro e
  have := h.ring.nodes m e
  obtain ⟨es, clock, hb, _⟩ := h.map
  rw [hb] at this
  cases this
theorem CacheAt.lt (h : CacheAt c m r room T nd nx pv D w) {k : Nat} (hk : Foot c m r T k) : k < w.heap.size := by
  rcases hk with rfl | rfl | hk
  · exact lt_of_heap h.obj
  · exact h.map.lt
  · exact lt_of_heap (h.ring.nodes k hk)
theorem CacheAt.stay {F : Nat → Prop} (h : CacheAt c m r room T nd nx pv D w) (k : Stir F w w') (hn : ∀ b, Foot c m r T b → ¬ F b) : CacheAt c m r room T nd nx pv D w' := by
  refine ⟨k.keep h.obj (hn c (Or.inl rfl)), ?_, h.size, h.look, h.ring.stay k (fun b hb => hn b (Or.inr (Or.inr hb))), h.keys, h.ok⟩
  obtain ⟨es, clock, hb, rest⟩ := h.map
  exact ⟨es, clock, k.keep hb (hn m (Or.inr (Or.inl rfl))), rest⟩
theorem CacheAt.later (h : CacheAt c m r room T nd nx pv D w) (k : Below w.heap.size w w') : CacheAt c m r room T nd nx pv D w' :=
  h.stay (Stir.of_below (F := fun _ => False) k) (fun _ _ h => h)
theorem zeroE (w : World) : (zeroValue 54).run Try.prog w = .ok (.pointer none) w := by kernel_rfl

/-- what the map answers of a key -/
theorem CacheAt.lookup (h : CacheAt c m r room T nd nx pv D w) {k : Int} (hk : Ok k) :
    (Instr.lookup 57 (.map (some m)) (.int .i64 k) false).run Try.prog w = .ok (ptrO (blockOf T nd k)) w := by
  obtain ⟨v, ps, hrun, hv⟩ := h.map.lookup law Try.underlying57 (zeroE w) (zd := .nil) (zp := []) rfl (key_of hk)
  rw [h.look] at hv
  rw [hrun]
  cases e : blockOf T nd k with
  | none => rw [e] at hv; rw [ptrElem_none hv]
  | some b => rw [e] at hv; rw [ptrElem_some hv]

set_option maxRecDepth 100000 in
set_option maxHeartbeats 1000000 in
theorem find_any (h : CacheAt c m r room T nd nx pv D w) {k : Int} (hk : Ok k) :
    Calls Try.prog 25 #[.pointer (some ⟨c, 0, none⟩), .int .i64 k] w fun e w' => e = .returned (ptrO (blockOf T nd k)) ∧ Below w.heap.size w w' := by
  have H := Lib.hid h
  clear h
  go_enter Try.func25, Try.ntmps25
  go_wp2_with fail
  refine (isKey_any k _).mono ?_
  rintro e w1 ⟨rfl, hB⟩
  have h1 := H.out.later hB
  have c1 := CObj.c1 h1.obj
  have hl := h1.lookup hk
  clear h1
  go_wp2
  go_ret
  exact ⟨rfl, hB⟩
end
end Go.Proofs.Ytipnbggbejkhkaa.CI
