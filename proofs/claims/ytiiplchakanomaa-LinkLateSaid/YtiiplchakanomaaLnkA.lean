/-
  A link in memory; New, put, take, empty, Cut, Waits.
-/
import Derived.Test.YtiiplchakanomaaLnkW
import Derived.Test.YtiiplchakanomaaLnkMath
import Derived.Deep.RegionHeld3
import Derived.RegionTactic
import Derived.BigRegion
import Derived.Laws.AppendOwnNone
namespace Go.Proofs.Ytiiplchakanomaa
open Go.RowKit Go

theorem infoStr : (Try.prog.info? 9).map (fun i => (i.zero, i.size, i.bytes)) = some (some (.string ⟨#[]⟩), 1, 16) := by kernel_rfl
theorem infoLte : (Try.prog.info? 58).map (fun i => (i.zero, i.size, i.bytes)) = some (some (.agg #[.string ⟨#[]⟩, .int .i64 0]), 2, 24) := by kernel_rfl
def lteVals (T : List Lte) : List Value := T.flatMap fun q => [.string q.1, .int .i64 (q.2 : Int)]
theorem lteVals_snoc (T : List Lte) (q : Lte) : lteVals (T ++ [q]) = lteVals T ++ [.string q.1, .int .i64 (q.2 : Int)] := by simp [lteVals]
theorem lteVals_len (T : List Lte) : (lteVals T).length = T.length * 2 := by
  induction T with
  | nil => rfl
  | cons q T ih =>
    have e : lteVals (q :: T) = [.string q.1, .int .i64 (q.2 : Int)] ++ lteVals T := by simp [lteVals]
    rw [e, List.length_append, ih]
    simp
    omega
theorem strVals_snoc (L : List ByteArray) (s : ByteArray) : strVals (L ++ [s]) = strVals L ++ [.string s] := by simp [strVals]
theorem row_shape {w : World} {base : Nat} {e : TypeId} {size : Nat} {v : Value} {n : Nat} {xs : List Value} (h : w.ownsRow base e size v n xs) : ∃ a cap, v = .slice a n cap := by
  rcases h.2 with ⟨rfl, h0⟩ | ⟨g, cap, cur, rfl, _⟩
  · exact ⟨none, 0, by rw [h0]⟩
  · exact ⟨_, _, rfl⟩
def LObj (room : Nat) (v u : Value) : Obj := .cells #[.int .i64 room, v, u] 54 (0, 0)
section
variable {w : World} {b room : Nat} {v u : Value}
theorem LObj.c0 (h : w.heap[b]? = some (LObj room v u)) : w.cell? ⟨b, 0, none⟩ = some (.int .i64 room) := by simp [World.cell?, h, LObj]
theorem LObj.c1 (h : w.heap[b]? = some (LObj room v u)) : w.cell? ⟨b, 1, none⟩ = some v := by simp [World.cell?, h, LObj]
theorem LObj.c2 (h : w.heap[b]? = some (LObj room v u)) : w.cell? ⟨b, 2, none⟩ = some u := by simp [World.cell?, h, LObj]
theorem LObj.fr (h : w.heap[b]? = some (LObj room v u)) (i : Nat) : w.frozen? ⟨b, i, none⟩ = false := by simp [World.frozen?, h, LObj]
theorem LObj.set1 (h : w.heap[b]? = some (LObj room v u)) (x : Value) : (w.setCell ⟨b, 1, none⟩ x).heap[b]? = some (LObj room x u) := by rw [heap_set h]; rfl
theorem LObj.set2 (h : w.heap[b]? = some (LObj room v u)) (x : Value) : (w.setCell ⟨b, 2, none⟩ x).heap[b]? = some (LObj room v x) := by rw [heap_set h]; rfl
end
/-- a link: room, what waits, what is late; G: the blocks that are its own -/
structure LAt (room : Nat) (L : List ByteArray) (T : List Lte) (b : Nat) (v u : Value) (G : Nat → Prop) (w : World) : Prop where
  obj : w.heap[b]? = some (LObj room v u)
  waits : offRow w 9 v L.length (strVals L)
  late : w.ownsRow 0 58 2 u T.length (lteVals T)
  own : G b
  ownv : ∀ k, v.ownBlock = some k → G k
  ownu : ∀ k, u.ownBlock = some k → G k
  lt : ∀ k, G k → k < w.heap.size
section
variable {w w' : World} {b room : Nat} {v u : Value} {L : List ByteArray} {T : List Lte} {G F : Nat → Prop}
theorem LAt.ne_v (h : LAt room L T b v u G w) {k : Nat} (hk : v.ownBlock = some k) : k ≠ b := by
  obtain ⟨C, hC⟩ := h.waits.block hk
  rintro rfl
  rw [h.obj] at hC
  unfold LObj at hC
  have := Option.some.inj hC
  injection this with _ e
  exact absurd e (by decide)
theorem LAt.ne_u (h : LAt room L T b v u G w) {k : Nat} (hk : u.ownBlock = some k) : k ≠ b := by
  obtain ⟨C, hC⟩ := owns_block h.late hk
  rintro rfl
  rw [h.obj] at hC
  unfold LObj at hC
  have := Option.some.inj hC
  injection this with _ e
  exact absurd e (by decide)
theorem LAt.ne_vu (h : LAt room L T b v u G w) {k m : Nat} (hk : v.ownBlock = some k) (hm : u.ownBlock = some m) : k ≠ m := by
  obtain ⟨C, hC⟩ := owns_block h.late hm
  obtain ⟨D, hD⟩ := h.waits.block hk
  rintro rfl
  rw [hC] at hD
  have := Option.some.inj hD
  injection this with _ e
  exact absurd e (by decide)
/-- what turns none of its blocks leaves it -/
theorem LAt.keep (h : LAt room L T b v u G w) (hs : Stir F w w') (hF : ∀ k, G k → ¬ F k) : LAt room L T b v u G w' :=
  ⟨hs.keep h.obj (hF _ h.own), h.waits.keep (fun k hk => hs.block k (h.lt k (h.ownv k hk)) (hF k (h.ownv k hk))), owns_keep h.late (fun k hk => hs.block k (h.lt k (h.ownu k hk)) (hF k (h.ownu k hk))), h.own, h.ownv, h.ownu,
   fun k hk => Nat.lt_of_lt_of_le (h.lt k hk) hs.size⟩
theorem LAt.later (h : LAt room L T b v u G w) (hB : Below w.heap.size w w') : LAt room L T b v u G w' := h.keep (Stir.of_below (F := fun _ => False) hB) (fun _ _ h => h)
end
/-- a link behind a call; what is late was not touched -/
def LPutU (room : Nat) (L : List ByteArray) (T : List Lte) (b : Nat) (u : Value) (G : Nat → Prop) (w w' : World) : Prop :=
  ∃ v G', LAt room L T b v u G' w' ∧ (∀ k, G' k → G k ∨ w.heap.size ≤ k) ∧ Stir G w w'
/-- a link behind a call -/
def LPut (room : Nat) (L : List ByteArray) (T : List Lte) (b : Nat) (G : Nat → Prop) (w w' : World) : Prop :=
  ∃ v u G', LAt room L T b v u G' w' ∧ (∀ k, G' k → G k ∨ w.heap.size ≤ k) ∧ Stir G w w'
section
variable {w w' w'' : World} {b room : Nat} {v u : Value} {L L' : List ByteArray} {T T' : List Lte} {G : Nat → Prop}
theorem LPutU.put (h : LPutU room L T b u G w w') : LPut room L T b G w w' := by
  obtain ⟨v, G', h1, h2, h3⟩ := h
  exact ⟨v, u, G', h1, h2, h3⟩
theorem LPutU.none (h : LAt room L T b v u G w) (hB : Below w.heap.size w w') : LPutU room L T b u G w w' := ⟨v, G, h.later hB, fun _ h => .inl h, Stir.of_below hB⟩
theorem LPutU.trans (h : Stir G w w') {G1 : Nat → Prop} (hG : ∀ k, G1 k → G k ∨ w.heap.size ≤ k) (k : LPutU room L T b u G1 w' w'') : LPutU room L T b u G w w'' := by
  obtain ⟨v, G', h1, h2, h3⟩ := k
  refine ⟨v, G', h1, fun k hk => ?_, h.trans h3 hG⟩
  rcases h2 k hk with h4 | h4
  · exact hG k h4
  · exact .inr (Nat.le_trans h.size h4)
theorem LPut.none (h : LAt room L T b v u G w) (hB : Below w.heap.size w w') : LPut room L T b G w w' := ⟨v, u, G, h.later hB, fun _ h => .inl h, Stir.of_below hB⟩
theorem LPut.below (h : LPut room L T b G w w') (hB : Below w'.heap.size w' w'') : LPut room L T b G w w'' := by
  obtain ⟨v, u, G', h1, h2, h3⟩ := h
  exact ⟨v, u, G', h1.later hB, h2, h3.and_below hB⟩
theorem LPut.trans (h : Stir G w w') {G1 : Nat → Prop} (hG : ∀ k, G1 k → G k ∨ w.heap.size ≤ k) (k : LPut room L T b G1 w' w'') : LPut room L T b G w w'' := by
  obtain ⟨v, u, G', h1, h2, h3⟩ := k
  refine ⟨v, u, G', h1, fun k hk => ?_, h.trans h3 hG⟩
  rcases h2 k hk with h4 | h4
  · exact hG k h4
  · exact .inr (Nat.le_trans h.size h4)
theorem LAt.obj1 (h : LAt room L T b v u G w) (hg : w.grownBy w' v.ownBlock) : w'.heap[b]? = some (LObj room v u) := (hg.block b (h.lt b h.own) (fun e => h.ne_v e.symm rfl)).trans h.obj
theorem LAt.obj2 (h : LAt room L T b v u G w) (hg : w.grownBy w' u.ownBlock) : w'.heap[b]? = some (LObj room v u) := (hg.block b (h.lt b h.own) (fun e => h.ne_u e.symm rfl)).trans h.obj
/-- a new row for what waits -/
theorem LAt.put1 (h : LAt room L T b v u G w) {v' : Value} (ho : offRow w' 9 v' L'.length (strVals L')) (hg : w.grownBy w' v.ownBlock) (hb : ∀ k, v'.ownBlock = some k → G k ∨ w.heap.size ≤ k) :
    LPutU room L' T b u G w (w'.setCell ⟨b, 1, none⟩ v') := by
  have hs : Stir G w w' := ⟨hg.os, hg.tape, hg.output, hg.size, fun k hk hn => hg.block k hk (fun e => hn (h.ownv k e.symm))⟩
  have hob : w'.heap[b]? = some (LObj room v u) := by
    refine (hg.block b (h.lt b h.own) (fun e => h.ne_v e.symm rfl)).trans h.obj
  have hbk : ∀ k, v'.ownBlock = some k → k ≠ b := by
    intro k hk
    obtain ⟨C, hC⟩ := ho.block hk
    rintro rfl
    rw [hob] at hC
    unfold LObj at hC
    have := Option.some.inj hC
    injection this with _ e
    exact absurd e (by decide)
  refine ⟨v', fun k => G k ∨ v'.ownBlock = some k, ⟨LObj.set1 hob v', ho.keep fun k hk => Below.heap_setCell _ _ _ _ (hbk k hk), ?_, .inl h.own, fun k hk => .inr hk, fun k hk => .inl (h.ownu k hk), ?_⟩, ?_, hs.set (.inl h.own) _⟩
  · refine owns_keep h.late fun k hk => ?_
    rw [Below.heap_setCell _ _ _ _ (h.ne_u hk)]
    exact hg.block k (h.lt k (h.ownu k hk)) (fun e => h.ne_vu e.symm hk rfl)
  · rintro k (hk | hk)
    · have := h.lt k hk
      have := hg.size
      simp [World.setCell]
      omega
    · obtain ⟨C, hC⟩ := ho.block hk
      have := lt_of_heap hC
      simpa [World.setCell] using this
  · rintro k (hk | hk)
    · exact .inl hk
    · exact hb k hk
/-- a new row for what is late -/
theorem LAt.put2' (h : LAt room L T b v u G w) {u' : Value} {base : Nat} (ho : w'.ownsRow base 58 2 u' T'.length (lteVals T')) (hg : w.grownBy w' u.ownBlock) :
    ∃ G', LAt room L T' b v u' G' (w'.setCell ⟨b, 2, none⟩ u') ∧ (∀ k, G' k → G k ∨ u'.ownBlock = some k) ∧ Stir G w (w'.setCell ⟨b, 2, none⟩ u') := by
  have hs : Stir G w w' := ⟨hg.os, hg.tape, hg.output, hg.size, fun k hk hn => hg.block k hk (fun e => hn (h.ownu k e.symm))⟩
  have hob : w'.heap[b]? = some (LObj room v u) := by
    refine (hg.block b (h.lt b h.own) (fun e => h.ne_u e.symm rfl)).trans h.obj
  have hbk : ∀ k, u'.ownBlock = some k → k ≠ b := by
    intro k hk
    obtain ⟨C, hC⟩ := owns_block ho hk
    rintro rfl
    rw [hob] at hC
    unfold LObj at hC
    have := Option.some.inj hC
    injection this with _ e
    exact absurd e (by decide)
  have ho' : (w'.setCell ⟨b, 2, none⟩ u').ownsRow 0 58 2 u' T'.length (lteVals T') := by
    refine ⟨ho.1, ?_⟩
    rcases ho.2 with h1 | ⟨g, cap, cur, rfl, h2, h3, h4⟩
    · exact .inl h1
    · exact .inr ⟨g, cap, cur, rfl, Nat.zero_le _, (Below.heap_setCell _ _ _ _ (hbk g rfl)).trans h3, h4⟩
  refine ⟨fun k => G k ∨ u'.ownBlock = some k, ⟨LObj.set2 hob u', ?_, ho', .inl h.own, fun k hk => .inl (h.ownv k hk), fun k hk => .inr hk, ?_⟩, fun k hk => hk, hs.set (.inl h.own) _⟩
  · refine h.waits.keep fun k hk => ?_
    rw [Below.heap_setCell _ _ _ _ (h.ne_v hk)]
    exact hg.block k (h.lt k (h.ownv k hk)) (fun e => h.ne_vu hk e.symm rfl)
  · rintro k (hk | hk)
    · have := h.lt k hk
      have := hg.size
      simp [World.setCell]
      omega
    · obtain ⟨C, hC⟩ := owns_block ho hk
      have := lt_of_heap hC
      simpa [World.setCell] using this
theorem LAt.put2 (h : LAt room L T b v u G w) {u' : Value} {base : Nat} (ho : w'.ownsRow base 58 2 u' T'.length (lteVals T')) (hg : w.grownBy w' u.ownBlock) (hb : ∀ k, u'.ownBlock = some k → G k ∨ w.heap.size ≤ k) :
    LPut room L T' b G w (w'.setCell ⟨b, 2, none⟩ u') := by
  obtain ⟨G', h1, h2, h3⟩ := h.put2' ho hg
  exact ⟨v, u', G', h1, fun k hk => (h2 k hk).elim .inl (hb k), h3⟩
end
set_option maxRecDepth 100000 in
theorem new_yes (room : Nat) (h1 : 1 ≤ room) (h2 : room ≤ 4096) (w : World) :
    Calls Try.prog 7 #[.int .i64 room] w fun e w' => e = .returned (.tuple #[.pointer (some ⟨w.heap.size, 0, none⟩), .int .i64 0]) ∧ Below w.heap.size w w' ∧ ∃ v u, LAt room [] [] w.heap.size v u (fun k => k = w.heap.size) w' := by
  have hi1 : ¬ (room : Int) < 1 := by omega
  have hi2 : ¬ (4096 : Int) < (room : Int) := by omega
  go_enter Try.func7, Try.ntmps7
  go_wp2_with fail
  go_ret2
  refine ⟨rfl, (Below.refl _ w).alloc (Nat.le_refl _) _, .slice none 0 0, .slice none 0 0, ⟨heap_alloc_new w _, offRow.nil _ _, World.ownsRow_nil _ _ _ _, rfl, fun k hk => (by cases hk), fun k hk => (by cases hk), fun k hk => ?_⟩⟩
  rw [show k = w.heap.size from hk]
  simp
theorem new_no (room : Int) (h : room < 1 ∨ 4096 < room) (w : World) :
    Calls Try.prog 7 #[.int .i64 room] w fun e w' => e = .returned (.tuple #[.pointer none, .int .i64 50]) ∧ w' = w := by
  by_cases h1 : room < 1
  · go_enter Try.func7, Try.ntmps7
    go_wp2_with fail
    go_ret2
    exact ⟨rfl, rfl⟩
  · have h2 : 4096 < room := by omega
    clear h
    go_enter Try.func7, Try.ntmps7
    go_wp2_with fail
    go_ret2
    exact ⟨rfl, rfl⟩
section
variable {w : World} {b room : Nat} {v u : Value} {L : List ByteArray} {T : List Lte} {G : Nat → Prop}
set_option maxRecDepth 100000 in
set_option maxHeartbeats 1000000 in
theorem putU_any (h : LAt room L T b v u G w) (hr : room ≤ 4096) (s : ByteArray) :
    Calls Try.prog 21 #[.pointer (some ⟨b, 0, none⟩), .string s] w fun e w' => e = .returned (.tuple #[]) ∧ LPutU room (comesL room L s) T b u G w w' := by
  obtain ⟨i0, hi0, hz0, hz1, hz2⟩ := info_parts infoStr
  obtain ⟨a, cap, rfl⟩ := h.waits.shape
  have c0 := LObj.c0 h.obj
  have c1 := LObj.c1 h.obj
  have H := Lib.hid h
  by_cases hlt : L.length < room
  · have hli : (L.length : Int) < (room : Int) := by omega
    have HC := Lib.hid (show comesL room L s = L ++ [s] by rw [comesL, if_pos hlt])
    have hroom : L.length < 4096 := by omega
    have HR := Lib.hid hroom
    have HB := Lib.hid (show Below w.heap.size w (w.drew.alloc (.cells #[.string s] 9)) from (Below.refl _ w).drew.alloc (Nat.le_refl _) _)
    have HA := Lib.hid (h.later HB.out)
    clear h hr hlt hroom
    go_enter Try.func21, Try.ntmps21
    go_wp2_with fail
    go_region
    all_goals (
      go_wp2_with (at_builtin; go_loud (
        (refine wpList_append_off rfl _ _ 29 rfl i0 (.string ⟨#[]⟩) 16 Try.underlying29 hi0 hz0 hz1 hz2 (by decide) rfl HA.out.waits ⟨w.heap.size, 0, none⟩ 1 (.string s) rfl (cell_one_new w.drew _ _) rfl (by have := HR.out; unfold maxLen; omega) (by have := HR.out; omega) ?_)
        intro v' w2 ho hg hb
        have hP := HA.out.put1 (L' := L ++ [s]) (by rw [strVals_snoc, List.length_append]; exact ho) hg (fun k hk => by
          rcases hb with e | e
          · exact .inl (HA.out.ownv k (e ▸ hk))
          · rw [hk] at e; cases e; exact .inr (Nat.le_refl _))
        obtain ⟨a', cap', rfl⟩ := ho.shape
        have d1 := LObj.c1 (HA.out.obj1 hg)
        have f1 := LObj.fr (HA.out.obj1 hg) 1
        have HP := Lib.hid hP
        clear ho hg hb hP))
      go_end0
      refine ⟨rfl, ?_⟩
      rw [HC.out]
      exact LPutU.trans (Stir.of_below HB.out) (fun k hk => .inl hk) HP.out)
  · have hli : ¬ (L.length : Int) < (room : Int) := by omega
    have HC := Lib.hid (show comesL room L s = L by rw [comesL, if_neg hlt])
    clear h hr hlt
    go_enter Try.func21, Try.ntmps21
    go_wp2_with fail
    go_region
    all_goals (
      go_wp2_with fail
      go_end0
      refine ⟨rfl, ?_⟩
      rw [HC.out]
      exact LPutU.none H.out (Below.refl _ _).drew)
theorem put_any (h : LAt room L T b v u G w) (hr : room ≤ 4096) (s : ByteArray) :
    Calls Try.prog 21 #[.pointer (some ⟨b, 0, none⟩), .string s] w fun e w' => e = .returned (.tuple #[]) ∧ LPut room (comesL room L s) T b G w w' :=
  (putU_any h hr s).mono fun _ _ h => ⟨h.1, h.2.put⟩

theorem tail_vals {L : List ByteArray} {cur : Array Value} {off n : Nat} (h : (cur.toList.drop off).take (n + 1) = strVals L) : (cur.toList.drop (off + 1)).take n = strVals L.tail := by
  have e := congrArg List.tail h
  rw [← List.drop_one, List.drop_take, List.drop_drop] at e
  have e2 : (strVals L).tail = strVals L.tail := by simp [strVals, List.map_tail]
  rw [e2] at e
  rw [show off + 1 = off + 1 from rfl] at *
  simpa using e
set_option maxRecDepth 100000 in
set_option maxHeartbeats 1000000 in
theorem take_any (h : LAt room L T b v u G w) (hn : L.length ≤ 4096) :
    Calls Try.prog 24 #[.pointer (some ⟨b, 0, none⟩)] w fun e w' => e = .returned (.tuple #[.string (L.headD ⟨#[]⟩), .bool (!L.isEmpty)]) ∧ LPut room L.tail T b G w w' := by
  have c1 := LObj.c1 h.obj
  have f1 := LObj.fr h.obj 1
  have H := Lib.hid h
  cases L with
  | nil =>
    obtain ⟨a, cap, rfl⟩ := h.waits.shape
    clear h hn
    go_enter Try.func24, Try.ntmps24
    go_wp2_with fail
    go_ret2
    exact ⟨rfl, LPut.none H.out (Below.refl _ _)⟩
  | cons s L =>
    rcases h.waits.2 with ⟨_, e⟩ | ⟨g, off, cap, cur, rfl, hg, hnc, hcm, hcs, htake⟩
    · simp at e
    · have hne : g ≠ b := h.ne_v rfl
      have cg := h.waits.cells rfl 0 (by simp) (by simp [strVals])
      have e0 : (strVals (s :: L))[0]'(by simp [strVals]) = .string s := rfl
      rw [e0, Nat.add_zero] at cg
      have fg : w.frozen? ⟨g, off, none⟩ = false := by simp [World.frozen?, hg]
      obtain ⟨w1, hw1⟩ : ∃ w1, w.setCell ⟨g, off, none⟩ (.string ⟨#[]⟩) = w1 := ⟨_, rfl⟩
      have hob : w1.heap[b]? = some (LObj room (.slice (some ⟨g, off, none⟩) (s :: L).length cap) u) := by rw [← hw1]; exact heap_set_other h.obj (Ne.symm hne) _
      have hg1 : w1.heap[g]? = some (.cells (cur.setIfInBounds off (.string ⟨#[]⟩)) 9 (0, 0)) := by rw [← hw1]; exact heap_set hg _
      have d1 := LObj.c1 hob
      have f2 := LObj.fr hob 1
      have hlen : (s :: L).length = L.length + 1 := rfl
      rw [hlen] at htake hnc d1 c1 H
      obtain ⟨o, ho⟩ : ∃ o, (if cap = 1 then off else off + 1) = o := ⟨_, rfl⟩
      have hsl : (if cap = 1 then some (⟨g, off, none⟩ : Addr) else some ⟨g, off + 1, none⟩) = some ⟨g, o, none⟩ := by
        rw [← ho]
        split <;> rfl
      have HP := Lib.hid (show LPut room L T b G w (w1.setCell ⟨b, 1, none⟩ (.slice (some ⟨g, o, none⟩) L.length (cap - 1))) by
        have hgr : w.grownBy w1 (Value.ownBlock (.slice (some ⟨g, off, none⟩) (s :: L).length cap)) := by
          rw [← hw1]
          exact ⟨rfl, rfl, rfl, by simp [World.setCell], fun k _ hk => Below.heap_setCell _ _ _ _ (fun e => hk (by rw [e]; rfl))⟩
        refine (h.put1 (L' := L) ⟨by simp [strVals], .inr ⟨g, o, cap - 1, _, rfl, hg1, by omega, by omega, ?_, ?_⟩⟩ hgr (fun k hk => .inl (h.ownv k hk))).put
        · rw [Array.size_setIfInBounds, ← ho]
          split <;> omega
        · rw [← ho]
          split
          · have : L = [] := List.eq_nil_of_length_eq_zero (by omega)
            subst this
            rfl
          · have ht := tail_vals htake
            rw [Array.toList_setIfInBounds, List.drop_set]
            rw [if_pos (by omega)]
            exact ht)
      have hni : ((L.length : Int) + 1 == 0) = false := by simp; omega
      have hnp : (0 : Int) < (L.length : Int) + 1 := by omega
      have hci : (1 : Int) ≤ (L.length : Int) + 1 := by omega
      have hn1 : ((L.length + 1 : Nat) : Int) = (L.length : Int) + 1 := by omega
      have hs1 : L.length + 1 - 1 = L.length := by omega
      clear h hn hg hg1 hob hlen htake e0 hcs hcm ho hne
      go_enter Try.func24, Try.ntmps24
      go_wp2
      go_ret2
      exact ⟨rfl, HP.out⟩
theorem taken_any (h : LAt room L T b v u G w) (hn : L.length ≤ 4096) :
    Calls Try.prog 13 #[.pointer (some ⟨b, 0, none⟩)] w fun e w' => e = .returned (.tuple #[.string (L.headD ⟨#[]⟩), .bool (!L.isEmpty)]) ∧ LPut room L.tail T b G w w' := by
  have C := take_any h hn
  obtain ⟨s, hs⟩ : ∃ s, L.headD ⟨#[]⟩ = s := ⟨_, rfl⟩
  obtain ⟨k, hk⟩ : ∃ k, (!L.isEmpty) = k := ⟨_, rfl⟩
  rw [hs, hk] at C ⊢
  clear h
  go_enter Try.func13, Try.ntmps13
  go_wp2_with fail
  refine C.mono ?_
  rintro e w' ⟨rfl, hP⟩
  go_wp2_with fail
  go_ret2
  exact ⟨rfl, hP⟩
theorem waits_any (h : LAt room L T b v u G w) :
    Calls Try.prog 16 #[.pointer (some ⟨b, 0, none⟩)] w fun e w' => e = .returned (.tuple #[.int .i64 L.length, .int .i64 T.length]) ∧ Below w.heap.size w w' := by
  obtain ⟨a, cap, rfl⟩ := h.waits.shape
  obtain ⟨a2, cap2, rfl⟩ := row_shape h.late
  have c1 := LObj.c1 h.obj
  have c2 := LObj.c2 h.obj
  clear h
  go_enter Try.func16, Try.ntmps16
  go_wp2_with fail
  go_region
  all_goals (
    go_wp2_with fail
    go_ret2
    exact ⟨rfl, (Below.refl _ _).drew⟩)
theorem empty_any (h : LAt room L T b v u G w) :
    Calls Try.prog 25 #[.pointer (some ⟨b, 0, none⟩)] w fun e w' => e = .returned (.tuple #[]) ∧ LPut room [] T b G w w' := by
  have c1 := LObj.c1 h.obj
  have f1 := LObj.fr h.obj 1
  have HP := Lib.hid (h.put1 (L' := []) (offRow.nil w _) ⟨rfl, rfl, rfl, Nat.le_refl _, fun _ _ _ => rfl⟩ (fun k hk => by cases hk)).put
  obtain ⟨a, cap, rfl⟩ := h.waits.shape
  clear h
  go_enter Try.func25, Try.ntmps25
  go_wp2
  go_end0
  exact ⟨rfl, HP.out⟩
theorem cut_any (h : LAt room L T b v u G w) :
    Calls Try.prog 15 #[.pointer (some ⟨b, 0, none⟩)] w fun e w' => e = .returned (.tuple #[]) ∧ LPut room [] [] b G w w' := by
  have C := empty_any h
  clear h
  go_enter Try.func15, Try.ntmps15
  go_wp2_with fail
  refine C.mono ?_
  rintro e w' ⟨rfl, v2, u2, G2, h2, hG, hs⟩
  have c2 := LObj.c2 h2.obj
  have f2 := LObj.fr h2.obj 2
  have HP := Lib.hid (LPut.trans hs hG (h2.put2 (T' := []) (base := 0) (World.ownsRow_nil _ _ _ _) ⟨rfl, rfl, rfl, Nat.le_refl _, fun _ _ _ => rfl⟩ (fun k hk => by cases hk)))
  obtain ⟨a, cap, rfl⟩ := row_shape h2.late
  clear h2 hG hs C
  go_wp2
  go_end0
  exact ⟨rfl, HP.out⟩
end
end Go.Proofs.Ytiiplchakanomaa

