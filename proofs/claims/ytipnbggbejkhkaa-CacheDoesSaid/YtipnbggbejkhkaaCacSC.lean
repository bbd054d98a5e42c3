/-
  One instance of a cache: Drop, Get.
-/
import Derived.Test.YtipnbggbejkhkaaCacSB
import Derived.Maps.OwnSet
namespace Go.Proofs.Ytipnbggbejkhkaa.CS
open Go.RowKit Go Go.Maps

theorem owns_fit {w : World} {m n : Nat} {D : DataW Unit} (h : w.ownsMap Try.prog 9 ptrElem m n D) : w.ownsMap Try.prog 9 ptrElem m (Maps.size D) D := by
  obtain ⟨es, clock, hb, F, _, rfl⟩ := h
  exact ⟨es, clock, hb, F, by simp [Maps.size, length_sorted], rfl⟩

section
variable {w w' : World} {c m r room : Nat} {T : List Nat} {nd : Nat → ByteArray × Int} {nx pv : Nat → Nat} {D : DataW Unit}
theorem CacheAt.has (h : CacheAt c m r room T nd nx pv D w) (k : ByteArray) : Maps.has D (lit k) = (blockOf T nd k).isSome := by
  cases e : blockOf T nd k with
  | none => exact Maps.has_false_of_atKey (fun z => by rw [h.look, e])
  | some b => exact Maps.has_true_of_atKey (y := .lit (.int .i64 b)) (fun z => by rw [h.look, e])

/-- what there is behind a Drop: said of the parts -/
theorem CacheAt.dropped {w1 w2 : World} (h : CacheAt c m r room T nd nx pv D w) {k : ByteArray} {b : Nat} (hb : blockOf T nd k = some b)
    (hr : RingAt r (T.filter (· ≠ b)) nd (upd nx (pv b) (nx b)) (upd pv (nx b) (pv b)) w1) (hs : Stir (· ∈ r :: T) w w1) {n : Nat}
    (hm : w2.ownsMap Try.prog 9 ptrElem m n (D.del (lit k))) (ht : w1.mapTurned w2 m) :
    CacheAt c m r room (T.filter (· ≠ b)) nd (upd nx (pv b) (nx b)) (upd pv (nx b) (pv b)) (D.del (lit k)) w2 ∧ Stir (Foot c m r T) w w2 := by
  have hS : Stir (Foot c m r T) w w1 := hs.weaken (fun i hi => Or.inr (Or.inr hi))
  have hS2 := hS.turned (Or.inl (Or.inr (Or.inl rfl))) ht
  have hT : Stir (· = m) w1 w2 := Stir.turned (Stir.refl _ _) (Or.inl rfl) ht
  obtain ⟨bT, _⟩ := blockOf_some hb
  have hnT : T.Nodup := (List.nodup_cons.1 h.ring.ring.nodup).2
  have hsz : Maps.size (D.del (lit k)) = (T.filter (· ≠ b)).length := by
    have e1 := Maps.size_del (k := lit k) (h.map.tidy law)
    have e2 := h.has k
    rw [hb] at e2
    rw [e2, h.size] at e1
    have e3 := filter_length hnT bT
    simp at e1
    omega
  refine ⟨⟨?_, ?_, hsz, ?_, ?_, nodup_filter_keys h.keys _, fun i hi => h.ok i (List.mem_filter.1 hi).1⟩, hS2⟩
  · exact hT.keep (hs.keep h.obj h.c_ring) h.c_map
  · rw [← hsz]; exact owns_fit hm
  · intro k' z
    rw [blockOf_filter h.keys hb]
    by_cases e : k' = k
    · subst e; rw [if_pos rfl]; exact Maps.atKey_del_same z
    · rw [if_neg e, Maps.atKey_del_other (fun e2 => e (lit_inj e2)), h.look]
  · exact hr.stay hT (fun i hi e => h.m_ring (by subst e; rcases List.mem_cons.1 hi with e2 | hi; rw [e2]; simp; exact List.mem_cons_of_mem _ (List.mem_filter.1 hi).1))

/-- what a Drop leaves -/
def Dropped (c m r room : Nat) (T : List Nat) (nd : Nat → ByteArray × Int) (k : ByteArray) (w w' : World) : Prop :=
  ∃ T' nx' pv' D', CacheAt c m r room T' nd nx' pv' D' w' ∧ T'.map nd = dropL (T.map nd) k ∧ (∀ b ∈ T', b ∈ T) ∧ blockOf T' nd k = none ∧ T'.length ≤ T.length ∧ Stir (Foot c m r T) w w'

set_option maxRecDepth 100000 in
set_option maxHeartbeats 1000000 in
theorem drop_at (h : CacheAt c m r room T nd nx pv D w) {k : ByteArray} (hk : Ok k) :
    Calls Try.prog 23 #[.pointer (some ⟨c, 0, none⟩), .string k] w fun e w' => e = .returned (.bool (getL (T.map nd) k).isSome) ∧ Dropped c m r room T nd k w w' := by
  have hfind := find_any h hk
  have hg := get_block T nd k
  rw [hg, Option.isSome_map]
  have H := Lib.hid h
  clear hg h
  cases hb : blockOf T nd k with
  | none =>
    have HB := Lib.hid hb
    rw [hb] at hfind
    unfold ptrO at hfind
    clear hb
    go_enter Try.func23, Try.ntmps23
    go_wp2_with fail
    refine hfind.mono ?_
    rintro e w1 ⟨rfl, hB⟩
    go_wp2_with fail
    go_ret
    exact ⟨rfl, T, nx, pv, D, H.out.later hB, (drop_none HB.out).symm, fun _ h => h, HB.out, Nat.le_refl _, Stir.of_below hB⟩
  | some b =>
    have HB := Lib.hid hb
    rw [hb] at hfind
    unfold ptrO at hfind
    clear hb
    go_enter Try.func23, Try.ntmps23
    go_wp2_with fail
    refine hfind.mono ?_
    rintro e w1 ⟨rfl, hB⟩
    go_wp2_with fail
    have h1 := H.out.later hB
    refine (leave_any h1.ring (blockOf_some HB.out).1).mono ?_
    rintro e w2 ⟨rfl, hr, -, hs⟩
    have c1 := CObj.c1 (hs.keep h1.obj h1.c_ring)
    have hm2 : w2.ownsMap Try.prog 9 ptrElem m T.length D := by
      obtain ⟨es, clock, hb', rest⟩ := h1.map
      exact ⟨es, clock, hs.keep hb' h1.m_ring, rest⟩
    have HR := Lib.hid hr
    have HS := Lib.hid hs
    have H1 := Lib.hid h1
    clear hr hs h1 hfind
    go_wp2_with (at_delete; refine wpList_delete_own _ rfl _ _ 69 9 rfl 66 law Try.underlying69 _ m T.length D rfl hm2 _ _ rfl (key_of hk) ?_; intro w3 hown hturn)
    go_ret
    obtain ⟨hc, hS⟩ := H1.out.dropped HB.out HR.out HS.out hown hturn
    have hno := blockOf_filter (k' := k) H1.out.keys HB.out
    rw [if_pos rfl] at hno
    exact ⟨rfl, _, _, _, _, hc, (drop_block H1.out.keys HB.out).symm, fun _ h => (List.mem_filter.1 h).1, hno, List.length_filter_le _ _, (Stir.of_below hB).trans hS (fun _ h => Or.inl h)⟩
end

/-- a cache: its things in the order in which they were used; F: the blocks that are its own -/
def Cach (B : Nat) (F : Nat → Prop) (c room : Nat) (L : List (ByteArray × Int)) (w : World) : Prop :=
  ∃ m r T nd nx pv D, CacheAt c m r room T nd nx pv D w ∧ T.map nd = L ∧ (∀ k, F k ↔ Foot c m r T k) ∧ (∀ k, F k → B ≤ k) ∧ T.length ≤ room ∧ room ≤ 65536

section
variable {w w' : World} {B c room : Nat} {F : Nat → Prop} {L : List (ByteArray × Int)}
theorem Cach.lt (h : Cach B F c room L w) {k : Nat} (hk : F k) : k < w.heap.size := by
  obtain ⟨m, r, T, nd, nx, pv, D, hc, _, hF, _, _⟩ := h
  exact hc.lt ((hF k).1 hk)
theorem Cach.low (h : Cach B F c room L w) {k : Nat} (hk : F k) : B ≤ k := by
  obtain ⟨m, r, T, nd, nx, pv, D, _, _, _, hB, _⟩ := h
  exact hB k hk
theorem Cach.stay {G : Nat → Prop} (h : Cach B F c room L w) (k : Stir G w w') (hn : ∀ b, F b → ¬ G b) : Cach B F c room L w' := by
  obtain ⟨m, r, T, nd, nx, pv, D, hc, hL, hF, hB⟩ := h
  exact ⟨m, r, T, nd, nx, pv, D, hc.stay k (fun b hb => hn b ((hF b).2 hb)), hL, hF, hB⟩
theorem Cach.later (h : Cach B F c room L w) (k : Below w.heap.size w w') : Cach B F c room L w' :=
  h.stay (Stir.of_below (F := fun _ => False) k) (fun _ _ h => h)

/-- what a call leaves: the cache, and what it may have turned -/
def Left (B : Nat) (F : Nat → Prop) (c room : Nat) (L : List (ByteArray × Int)) (w w' : World) : Prop :=
  ∃ F', Cach B F' c room L w' ∧ Stir F w w' ∧ ∀ k, F' k → F k ∨ w.heap.size ≤ k

theorem drop_any (h : Cach B F c room L w) {k : ByteArray} (hk : Ok k) :
    Calls Try.prog 23 #[.pointer (some ⟨c, 0, none⟩), .string k] w fun e w' => e = .returned (.bool (getL L k).isSome) ∧ Left B F c room (dropL L k) w w' := by
  obtain ⟨m, r, T, nd, nx, pv, D, hc, rfl, hF, hB, hft, hmr⟩ := h
  refine (drop_at hc hk).mono ?_
  rintro e w' ⟨rfl, T', nx', pv', D', h1, h2, h3, _, h5, h4⟩
  have sub : ∀ k, Foot c m r T' k → Foot c m r T k := fun k hk => by
    rcases hk with hk | hk | hk
    · exact Or.inl hk
    · exact Or.inr (Or.inl hk)
    · rcases List.mem_cons.1 hk with hk | hk
      · exact Or.inr (Or.inr (by rw [hk]; simp))
      · exact Or.inr (Or.inr (List.mem_cons_of_mem _ (h3 k hk)))
  exact ⟨rfl, Foot c m r T', ⟨m, r, T', nd, nx', pv', D', h1, h2, fun _ => Iff.rfl, fun k hk => hB k ((hF k).2 (sub k hk)), Nat.le_trans h5 hft, hmr⟩, h4.weaken (fun k hk => (hF k).2 hk), fun k hk => Or.inl ((hF k).2 (sub k hk))⟩

set_option maxRecDepth 100000 in
set_option maxHeartbeats 1000000 in
theorem get_none (h : Cach B F c room L w) {k : ByteArray} (hk : Ok k) (hg : getL L k = none) :
    Calls Try.prog 21 #[.pointer (some ⟨c, 0, none⟩), .string k] w fun e w' => e = .returned (.tuple #[.int .i64 (0 : Int), .bool false]) ∧ Left B F c room L w w' := by
  have H := Lib.hid h
  obtain ⟨m, r, T, nd, nx, pv, D, hc, rfl, hF, hB, hft, hmr⟩ := h
  have hfind := find_any hc hk
  rw [get_block] at hg
  have hb : blockOf T nd k = none := by
    cases e : blockOf T nd k with
    | none => rfl
    | some b => rw [e] at hg; cases hg
  rw [hb] at hfind
  unfold ptrO at hfind
  clear hb hg hc hF hB hft hmr
  go_enter Try.func21, Try.ntmps21
  go_wp2_with fail
  refine hfind.mono ?_
  rintro e w1 ⟨rfl, hB⟩
  go_wp2_with fail
  go_ret2
  exact ⟨rfl, F, H.out.later hB, Stir.of_below hB, fun _ h => Or.inl h⟩

theorem map_front (T : List Nat) (nd : Nat → ByteArray × Int) {b : Nat} (x : ByteArray × Int) (hb : b ∉ T) : (b :: T).map (upd nd b x) = x :: T.map nd := by
  rw [List.map_cons, upd_same, map_upd T nd x hb]
theorem upd_self {α : Type} (f : Nat → α) (a : Nat) : upd f a (f a) = f := by
  funext i; unfold upd; split
  · rename_i h; rw [h]
  · rfl

/-- what there is behind a Get -/
theorem CacheAt.used {w1 w2 : World} {m r : Nat} {T : List Nat} {nd : Nat → ByteArray × Int} {nx pv nx' pv' : Nat → Nat} {D : DataW Unit} (h : CacheAt c m r room T nd nx pv D w) {b : Nat} (hb : b ∈ T)
    (hs : Stir (· ∈ r :: T) w w1) (hr2 : RingAt r (b :: T.filter (· ≠ b)) nd nx' pv' w2) (hs2 : Stir (· ∈ r :: b :: T.filter (· ≠ b)) w1 w2) :
    CacheAt c m r room (b :: T.filter (· ≠ b)) nd nx' pv' D w2 ∧ Stir (Foot c m r T) w w2 ∧ ∀ k, Foot c m r (b :: T.filter (· ≠ b)) k → Foot c m r T k := by
  have sub : ∀ i, i ∈ r :: b :: T.filter (· ≠ b) → i ∈ r :: T := fun i hi => by
    rcases List.mem_cons.1 hi with rfl | hi
    · simp
    · rcases List.mem_cons.1 hi with rfl | hi
      · exact List.mem_cons_of_mem _ hb
      · exact List.mem_cons_of_mem _ (List.mem_filter.1 hi).1
  have hS : Stir (· ∈ r :: T) w w2 := hs.trans hs2 (fun i hi => Or.inl (sub i hi))
  have hnT : T.Nodup := (List.nodup_cons.1 h.ring.ring.nodup).2
  have hlen : (b :: T.filter (· ≠ b)).length = T.length := by rw [List.length_cons]; exact filter_length hnT hb
  refine ⟨⟨hS.keep h.obj h.c_ring, ?_, h.size.trans hlen.symm, ?_, hr2, ?_, ?_⟩, hS.weaken (fun i hi => Or.inr (Or.inr hi)), ?_⟩
  · obtain ⟨es, clock, hb', rest⟩ := h.map
    rw [hlen]
    exact ⟨es, clock, hS.keep hb' h.m_ring, rest⟩
  · intro k z
    rw [h.look]
    have e : blockOf (b :: T.filter (· ≠ b)) nd k = blockOf T nd k := by
      by_cases e1 : (nd b).1 = k
      · rw [blockOf_of h.keys hb e1]
        unfold blockOf
        rw [List.find?_cons_of_pos (by simpa using e1)]
      · have e2 : blockOf (b :: T.filter (· ≠ b)) nd k = blockOf (T.filter (· ≠ b)) nd k := by
          unfold blockOf
          rw [List.find?_cons_of_neg (by simpa using e1)]
        rw [e2, blockOf_filter h.keys (blockOf_of h.keys hb rfl), if_neg (fun e => e1 e.symm)]
    rw [e]
  · rw [List.map_cons, List.nodup_cons]
    refine ⟨fun hm => ?_, nodup_filter_keys h.keys _⟩
    obtain ⟨i, hi, e⟩ := List.mem_map.1 hm
    have hi' := List.mem_filter.1 hi
    have := inj_keys T h.keys hi'.1 hb e
    simp [this] at hi'
  · intro i hi
    rcases List.mem_cons.1 hi with rfl | hi
    · exact h.ok _ hb
    · exact h.ok i (List.mem_filter.1 hi).1
  · rintro k (hk | hk | hk)
    · exact Or.inl hk
    · exact Or.inr (Or.inl hk)
    · exact Or.inr (Or.inr (sub k hk))

set_option maxRecDepth 100000 in
set_option maxHeartbeats 1000000 in
theorem get_some (h : Cach B F c room L w) {k : ByteArray} (hk : Ok k) {v : Int} (hg : getL L k = some v) :
    Calls Try.prog 21 #[.pointer (some ⟨c, 0, none⟩), .string k] w fun e w' => e = .returned (.tuple #[.int .i64 v, .bool true]) ∧ Left B F c room ((k, v) :: dropL L k) w w' := by
  obtain ⟨m, r, T, nd, nx, pv, D, hc, rfl, hF, hB, hft, hmr⟩ := h
  have hfind := find_any hc hk
  rw [get_block] at hg
  obtain ⟨b, hb⟩ : ∃ b, blockOf T nd k = some b := by
    cases e : blockOf T nd k with
    | none => rw [e] at hg; cases hg
    | some b => exact ⟨b, rfl⟩
  rw [hb] at hg
  obtain rfl : (nd b).2 = v := Option.some.inj hg
  rw [hb] at hfind
  unfold ptrO at hfind
  have HB := Lib.hid hb
  have HC := Lib.hid hc
  have HF := Lib.hid hF
  have HL := Lib.hid hB
  have HM := Lib.hid hft
  clear hb hg hc hF hB hft
  go_enter Try.func21, Try.ntmps21
  go_wp2_with fail
  refine hfind.mono ?_
  rintro e w1 ⟨rfl, hB⟩
  have h1 := HC.out.later hB
  have hbT := (blockOf_some HB.out).1
  have HT := Lib.hid hbT
  have H1 := Lib.hid h1
  clear hfind
  go_wp2_with fail
  refine (leave_any h1.ring hbT).mono ?_
  rintro e w2 ⟨rfl, hr, ho, hs⟩
  have c2 := CObj.c2 (hs.keep h1.obj h1.c_ring)
  have HR := Lib.hid hr
  have HO := Lib.hid ho
  have HS := Lib.hid hs
  clear hr ho hs h1 hbT
  go_wp2_with fail
  refine (follow_any HR.out (by
    have hn := List.nodup_cons.1 HC.out.ring.ring.nodup
    intro hi
    rcases List.mem_cons.1 hi with e | hi
    · exact hn.1 (e ▸ HT.out)
    · simp at hi) _ _ _ HO.out).mono ?_
  rintro e w3 ⟨rfl, hr3, hs3⟩
  rw [upd_self] at hr3
  have c3 := LObj.c1 (hr3.nodes b (by simp))
  have HR3 := Lib.hid hr3
  have HS3 := Lib.hid hs3
  clear hr3 hs3 c2
  go_wp2_with fail
  go_ret2
  obtain ⟨u1, u2, u3⟩ := H1.out.used HT.out HS.out HR3.out HS3.out
  refine ⟨rfl, _, ⟨m, r, _, nd, _, _, D, u1, ?_, fun _ => Iff.rfl, fun i hi => HL.out i ((HF.out i).2 (u3 i hi)), by rw [List.length_cons, filter_length (List.nodup_cons.1 HC.out.ring.ring.nodup).2 HT.out]; exact HM.out, hmr⟩, (Stir.of_below hB).trans (u2.weaken (fun i hi => (HF.out i).2 hi)) (fun _ h => Or.inl h), fun i hi => Or.inl ((HF.out i).2 (u3 i hi))⟩
  rw [List.map_cons, drop_block HC.out.keys HB.out, ← (blockOf_some HB.out).2]
end
end Go.Proofs.Ytipnbggbejkhkaa.CS
