/-
  One instance of a cache: Put, Keys, New.
-/
import Derived.Test.YtipnbggbejkhkaaCacIC
import Derived.Deep.LoopGhost
import Derived.Deep.QuietTactic
import Derived.BigQuiet
import Derived.Laws.OwnMore
import Derived.OwnWalk
import Derived.IntWalk
namespace Go.Proofs.Ytipnbggbejkhkaa.CI
open Go.RowKit Go Go.Maps

section
variable {w w' : World} {c m r room : Nat} {T : List Nat} {nd : Nat → Int × ByteArray} {nx pv : Nat → Nat} {D : DataW Unit}

theorem CacheAt.c_new (h : CacheAt c m r room T nd nx pv D w) {b : Nat} (hw : w.heap.size ≤ b) : c ∉ r :: b :: T := by
  intro e
  rcases List.mem_cons.1 e with e | e
  · exact h.c_ring (by simp [e])
  · rcases List.mem_cons.1 e with e | e
    · have := h.lt (Or.inl rfl); omega
    · exact h.c_ring (List.mem_cons_of_mem _ e)
theorem CacheAt.m_new (h : CacheAt c m r room T nd nx pv D w) {b : Nat} (hw : w.heap.size ≤ b) : m ∉ r :: b :: T := by
  intro e
  rcases List.mem_cons.1 e with e | e
  · exact h.m_ring (by simp [e])
  · rcases List.mem_cons.1 e with e | e
    · have := h.lt (Or.inr (Or.inl rfl)); omega
    · exact h.m_ring (List.mem_cons_of_mem _ e)
theorem CacheAt.new_not (h : CacheAt c m r room T nd nx pv D w) {b : Nat} (hw : w.heap.size ≤ b) : b ∉ r :: T := fun e => by
  have := h.lt (Or.inr (Or.inr e)); omega

/-- what there is behind a Put of a key that was not there -/
theorem CacheAt.new {w1 w2 : World} (h : CacheAt c m r room T nd nx pv D w) {k : Int} {v : ByteArray} (hk : Ok k) (hno : blockOf T nd k = none) {b : Nat} (hw : w.heap.size ≤ b) {nx' pv' : Nat → Nat}
    (hr : RingAt r (b :: T) (upd nd b (k, v)) nx' pv' w1) (hs : Stir (· ∈ r :: b :: T) w w1) {n : Nat}
    (hm : w2.ownsMap Try.prog 3 ptrElem m n (D.put (lit k) (.lit (.int .i64 b)))) (ht : w1.mapTurned w2 m) :
    CacheAt c m r room (b :: T) (upd nd b (k, v)) nx' pv' (D.put (lit k) (.lit (.int .i64 b))) w2 ∧ Stir (Foot c m r T) w w2 := by
  have hS : Stir (Foot c m r T) w w1 := ⟨hs.os, hs.tape, hs.output, hs.size, fun i hi hn => hs.block i hi (fun f => by
    rcases List.mem_cons.1 f with e | f
    · exact hn (Or.inr (Or.inr (by simp [e])))
    · rcases List.mem_cons.1 f with e | f
      · omega
      · exact hn (Or.inr (Or.inr (List.mem_cons_of_mem _ f))))⟩
  have hS2 := hS.turned (Or.inl (Or.inr (Or.inl rfl))) ht
  have hT : Stir (· = m) w1 w2 := Stir.turned (Stir.refl _ _) (Or.inl rfl) ht
  have hbT : b ∉ T := fun e => by have := h.lt (Or.inr (Or.inr (List.mem_cons_of_mem _ e))); omega
  have hcb := h.c_new hw
  have hmb := h.m_new hw
  have hsz : Maps.size (D.put (lit k) (DataW.lit (H := Unit) (.int .i64 b))) = (b :: T).length := by
    rw [Maps.size_put (h.map.tidy law), h.has, hno, h.size]
    rfl
  refine ⟨⟨hT.keep (hs.keep h.obj hcb) h.c_map, by rw [← hsz]; exact owns_fit hm, hsz, ?_, hr.stay hT (fun i hi e => hmb (by rw [← e]; exact hi)), ?_, ?_⟩, hS2⟩
  · intro k' z
    have e0 : blockOf (b :: T) (upd nd b (k, v)) k' = if k = k' then some b else blockOf T nd k' := by
      by_cases e : k = k'
      · rw [if_pos e]; unfold blockOf; rw [List.find?_cons_of_pos (by simp [upd_same, e])]
      · rw [if_neg e]
        have e2 : blockOf (b :: T) (upd nd b (k, v)) k' = blockOf T (upd nd b (k, v)) k' := by unfold blockOf; rw [List.find?_cons_of_neg (by simp [upd_same, e])]
        rw [e2, blockOf_upd T nd (k, v) k' hbT]
    rw [e0]
    by_cases e : k = k'
    · subst e; rw [if_pos rfl]; exact Maps.atKey_put_same h.map.isMap (lit_key k) _ z
    · rw [if_neg e, Maps.atKey_put_other (fun e2 => e (lit_inj e2).symm), h.look]
  · rw [List.map_cons, upd_same, List.nodup_cons]
    have e1 : (T.map fun i => (upd nd b (k, v) i).1) = T.map fun i => (nd i).1 := List.map_congr_left fun i hi => by rw [upd_other _ _ (by rintro rfl; exact hbT hi)]
    rw [e1]
    refine ⟨fun hmm => ?_, h.keys⟩
    obtain ⟨i, hi, e⟩ := List.mem_map.1 hmm
    exact blockOf_none hno i hi e
  · intro i hi
    rcases List.mem_cons.1 hi with rfl | hi
    · rw [upd_same]; exact hk
    · rw [upd_other _ _ (fun e2 => hbT (by rw [← e2]; exact hi))]; exact h.ok i hi
end

/-- what a Put answers -/
def putV (room : Nat) (L : List (Int × ByteArray)) (k : Int) (v : ByteArray) : Value :=
  match goneL room L k v with | some g => .tuple #[.int .i64 g, .bool true] | none => .tuple #[.int .i64 (0 : Int), .bool false]

section
variable {w w' : World} {B c room : Nat} {F : Nat → Prop} {L : List (Int × ByteArray)}

theorem CacheAt.drew {m r : Nat} {T : List Nat} {nd : Nat → Int × ByteArray} {nx pv : Nat → Nat} {D : DataW Unit} (h : CacheAt c m r room T nd nx pv D w) : CacheAt c m r room T nd nx pv D w.drew := ⟨h.obj, h.map, h.size, h.look, ⟨h.ring.ring, h.ring.nodes⟩, h.keys, h.ok⟩
theorem Left.drew (h : Left B F c room L w w') : Left B F c room L w w'.drew := by
  obtain ⟨F', ⟨m, r, T, nd, nx, pv, D, hc, h1⟩, h2, h3⟩ := h
  exact ⟨F', ⟨m, r, T, nd, nx, pv, D, hc.drew, h1⟩, h2.drew, h3⟩

set_option maxRecDepth 100000 in
set_option maxHeartbeats 2000000 in
theorem put_fits (h : Cach B F c room L w) {k : Int} (hk : Ok k) (v : ByteArray) (hle : (dropL L k).length + 1 ≤ room) :
    Calls Try.prog 14 #[.pointer (some ⟨c, 0, none⟩), .int .i64 k, .string v] w fun e w' => e = .returned (.tuple #[.int .i64 (0 : Int), .bool false]) ∧ Left B F c room ((k, v) :: dropL L k) w w' := by
  obtain ⟨m, r, T, nd, nx, pv, D, hc, rfl, hF, hB, hft, hmr⟩ := h
  have HC := Lib.hid hc
  have HF := Lib.hid hF
  have HL := Lib.hid hB
  have HM := Lib.hid hft
  have HE := Lib.hid hle
  clear hc hF hB hft hle
  go_enter Try.func14, Try.ntmps14
  go_wp2_with fail
  refine (isKey_any k _).mono ?_
  rintro e w1 ⟨rfl, hB⟩
  go_wp2_with fail
  refine (drop_at (HC.out.later hB) hk).mono ?_
  rintro e w2 ⟨rfl, T', nx', pv', D', h1, h2, h3, h4, h5, h6⟩
  have H1 := Lib.hid h1
  have H2 := Lib.hid h2
  have H3 := Lib.hid h3
  have H4 := Lib.hid h4
  have H5 := Lib.hid h5
  have H6 := Lib.hid h6
  have hx := CacheAt.later h1 ((Below.refl _ w2).alloc (Nat.le_refl _) (LObj (k, v) (.pointer none) (.pointer none)))
  have c2 := CObj.c2 hx.obj
  unfold LObj at c2
  have HX := Lib.hid hx
  have hno : w2.heap.size ∉ r :: T' := h1.new_not (Nat.le_refl _)
  clear h1 h2 h3 h4 h5 h6 hx
  go_wp2_with fail
  refine (follow_any (b := w2.heap.size) (T := T') (x := (k, v)) (x1 := .pointer none) (x2 := .pointer none) HX.out.ring hno (heap_alloc_new _ _)).mono ?_
  rintro e w3 ⟨rfl, hr, hs⟩
  have c1 := CObj.c1 (hs.keep HX.out.obj (H1.out.c_new (Nat.le_refl _)))
  have hm3 : w3.ownsMap Try.prog 3 ptrElem m T'.length D' := by
    obtain ⟨es, clock, hb', rest⟩ := HX.out.map
    exact ⟨es, clock, hs.keep hb' (H1.out.m_new (Nat.le_refl _)), rest⟩
  have hs' : Stir (· ∈ r :: w2.heap.size :: T') w2 w3 := (Stir.of_below ((Below.refl _ w2).alloc (Nat.le_refl _) _)).trans hs (fun _ h => Or.inl h)
  have HR := Lib.hid hr
  have HS := Lib.hid hs'
  have hlt' : T'.length < maxLen := by have := H5.out; have := HM.out; unfold maxLen; omega
  clear hr hs hs' hno c2
  go_wp2_with (at_mapUpdate; refine wpList_mapUpdate_in _ rfl _ _ _ 57 rfl 3 54 law Try.underlying57 _ m T'.length D' rfl hm3 hlt' _ _ _ rfl rfl (key_of hk) (.lit (.int .i64 w2.heap.size)) [] rfl ?_; intro w4 hown hturn)
  obtain ⟨hc4, hS4⟩ := H1.out.new hk H4.out (Nat.le_refl _) HR.out HS.out hown hturn
  have c0 := CObj.c0 hc4.obj
  have c1 := CObj.c1 hc4.obj
  have hlen := World.ownsMap.len (w := w4.drew) hc4.map Try.underlying57
  have hz := hc4.size
  have e5 := congrArg List.length H2.out
  rw [List.length_map] at e5
  rw [List.length_cons, e5] at hz
  rw [hz] at hlen
  have hbT : w2.heap.size ∉ T' := fun e => H1.out.new_not (Nat.le_refl _) (List.mem_cons_of_mem _ e)
  have sub : ∀ i, Foot c m r (w2.heap.size :: T') i → F i ∨ w.heap.size ≤ i := fun i hi => by
    rcases hi with hi | hi | hi
    · exact Or.inl ((HF.out i).2 (Or.inl hi))
    · exact Or.inl ((HF.out i).2 (Or.inr (Or.inl hi)))
    · rcases List.mem_cons.1 hi with hi | hi
      · exact Or.inl ((HF.out i).2 (Or.inr (Or.inr (by simp [hi]))))
      · rcases List.mem_cons.1 hi with hi | hi
        · have := hB.size; have := H6.out.size; exact Or.inr (by omega)
        · exact Or.inl ((HF.out i).2 (Or.inr (Or.inr (List.mem_cons_of_mem _ (H3.out i hi)))))
  have subT : ∀ i, Foot c m r T' i → Foot c m r T i := fun i hi => by
    rcases hi with hi | hi | hi
    · exact Or.inl hi
    · exact Or.inr (Or.inl hi)
    · rcases List.mem_cons.1 hi with hi | hi
      · exact Or.inr (Or.inr (by simp [hi]))
      · exact Or.inr (Or.inr (List.mem_cons_of_mem _ (H3.out i hi)))
  have low : ∀ i, F i ∨ w.heap.size ≤ i → B ≤ i := fun i hi => by
    rcases hi with hi | hi
    · exact HL.out i hi
    · have := HL.out c ((HF.out c).2 (Or.inl rfl))
      have := HC.out.lt (Or.inl rfl)
      omega
  have hS5 : Stir F w w4 := (Stir.of_below hB).trans ((H6.out.trans hS4 (fun i hi => Or.inl (subT i hi))).weaken (fun i hi => (HF.out i).2 hi)) (fun i hi => Or.inl hi)
  have hle : (dropL (T.map nd) k).length + 1 ≤ room := HE.out
  have hQ : Left B F c room ((k, v) :: dropL (T.map nd) k) w w4 := by
    refine ⟨_, ⟨m, r, _, _, _, _, _, hc4, ?_, fun _ => Iff.rfl, fun i hi => low i (sub i hi), by rw [List.length_cons, e5]; exact hle, hmr⟩, hS5, sub⟩
    rw [map_front T' nd (k, v) hbT, H2.out]
  have HQ := Lib.hid hQ.drew
  clear hz hc4 hS4 hown hturn hm3 e5 hlt' hbT sub subT low hS5 hQ
  generalize (dropL (T.map nd) k).length + 1 = nn at hlen hle
  go_region
  all_goals (go_wp2_with fail; go_ret2; exact ⟨rfl, HQ.out⟩)

set_option maxRecDepth 100000 in
set_option maxHeartbeats 2000000 in
theorem put_over (h : Cach B F c room L w) {k : Int} (hk : Ok k) (v : ByteArray) (hle : ¬ (dropL L k).length + 1 ≤ room) :
    Calls Try.prog 14 #[.pointer (some ⟨c, 0, none⟩), .int .i64 k, .string v] w fun e w' => ∃ g, goneL room L k v = some g ∧ e = .returned (.tuple #[.int .i64 g, .bool true]) ∧ Left B F c room (((k, v) :: dropL L k).take room) w w' := by
  obtain ⟨m, r, T, nd, nx, pv, D, hc, rfl, hF, hB, hft, hmr⟩ := h
  have HC := Lib.hid hc
  have HF := Lib.hid hF
  have HL := Lib.hid hB
  have HM := Lib.hid hft
  have HE := Lib.hid hle
  clear hc hF hB hft hle
  go_enter Try.func14, Try.ntmps14
  go_wp2_with fail
  refine (isKey_any k _).mono ?_
  rintro e w1 ⟨rfl, hB⟩
  go_wp2_with fail
  refine (drop_at (HC.out.later hB) hk).mono ?_
  rintro e w2 ⟨rfl, T', nx', pv', D', h1, h2, h3, h4, h5, h6⟩
  have H1 := Lib.hid h1
  have H2 := Lib.hid h2
  have H3 := Lib.hid h3
  have H4 := Lib.hid h4
  have H5 := Lib.hid h5
  have H6 := Lib.hid h6
  have hx := CacheAt.later h1 ((Below.refl _ w2).alloc (Nat.le_refl _) (LObj (k, v) (.pointer none) (.pointer none)))
  have c2 := CObj.c2 hx.obj
  unfold LObj at c2
  have HX := Lib.hid hx
  have hno : w2.heap.size ∉ r :: T' := h1.new_not (Nat.le_refl _)
  clear h1 h2 h3 h4 h5 h6 hx
  go_wp2_with fail
  refine (follow_any (b := w2.heap.size) (T := T') (x := (k, v)) (x1 := .pointer none) (x2 := .pointer none) HX.out.ring hno (heap_alloc_new _ _)).mono ?_
  rintro e w3 ⟨rfl, hr, hs⟩
  have c1 := CObj.c1 (hs.keep HX.out.obj (H1.out.c_new (Nat.le_refl _)))
  have hm3 : w3.ownsMap Try.prog 3 ptrElem m T'.length D' := by
    obtain ⟨es, clock, hb', rest⟩ := HX.out.map
    exact ⟨es, clock, hs.keep hb' (H1.out.m_new (Nat.le_refl _)), rest⟩
  have hs' : Stir (· ∈ r :: w2.heap.size :: T') w2 w3 := (Stir.of_below ((Below.refl _ w2).alloc (Nat.le_refl _) _)).trans hs (fun _ h => Or.inl h)
  have HR := Lib.hid hr
  have HS := Lib.hid hs'
  have hlt' : T'.length < maxLen := by have := H5.out; have := HM.out; unfold maxLen; omega
  clear hr hs hs' hno c2
  go_wp2_with (at_mapUpdate; refine wpList_mapUpdate_in _ rfl _ _ _ 57 rfl 3 54 law Try.underlying57 _ m T'.length D' rfl hm3 hlt' _ _ _ rfl rfl (key_of hk) (.lit (.int .i64 w2.heap.size)) [] rfl ?_; intro w4 hown hturn)
  obtain ⟨hc4, hS4⟩ := H1.out.new hk H4.out (Nat.le_refl _) HR.out HS.out hown hturn
  have c0 := CObj.c0 hc4.obj
  have c1 := CObj.c1 hc4.obj
  have hlen := World.ownsMap.len (w := w4.drew) hc4.map Try.underlying57
  have hz := hc4.size
  have e5 := congrArg List.length H2.out
  rw [List.length_map] at e5
  rw [List.length_cons, e5] at hz
  rw [hz] at hlen
  have hbT : w2.heap.size ∉ T' := fun e => H1.out.new_not (Nat.le_refl _) (List.mem_cons_of_mem _ e)
  have sub : ∀ i, Foot c m r (w2.heap.size :: T') i → F i ∨ w.heap.size ≤ i := fun i hi => by
    rcases hi with hi | hi | hi
    · exact Or.inl ((HF.out i).2 (Or.inl hi))
    · exact Or.inl ((HF.out i).2 (Or.inr (Or.inl hi)))
    · rcases List.mem_cons.1 hi with hi | hi
      · exact Or.inl ((HF.out i).2 (Or.inr (Or.inr (by simp [hi]))))
      · rcases List.mem_cons.1 hi with hi | hi
        · have := hB.size; have := H6.out.size; exact Or.inr (by omega)
        · exact Or.inl ((HF.out i).2 (Or.inr (Or.inr (List.mem_cons_of_mem _ (H3.out i hi)))))
  have subT : ∀ i, Foot c m r T' i → Foot c m r T i := fun i hi => by
    rcases hi with hi | hi | hi
    · exact Or.inl hi
    · exact Or.inr (Or.inl hi)
    · rcases List.mem_cons.1 hi with hi | hi
      · exact Or.inr (Or.inr (by simp [hi]))
      · exact Or.inr (Or.inr (List.mem_cons_of_mem _ (H3.out i hi)))
  have low : ∀ i, F i ∨ w.heap.size ≤ i → B ≤ i := fun i hi => by
    rcases hi with hi | hi
    · exact HL.out i hi
    · have := HL.out c ((HF.out c).2 (Or.inl rfl))
      have := HC.out.lt (Or.inl rfl)
      omega
  have hS5 : Stir F w w4 := (Stir.of_below hB).trans ((H6.out.trans hS4 (fun i hi => Or.inl (subT i hi))).weaken (fun i hi => (HF.out i).2 hi)) (fun i hi => Or.inl hi)
  have hle : room < (dropL (T.map nd) k).length + 1 := by have := HE.out; omega
  have hle2 : decide ((dropL (T.map nd) k).length + 1 ≤ room) = false := by have := HE.out; simpa using this
  have hd := hc4.drew
  obtain ⟨A, hA⟩ := hd.ring.ring.last (by simp)
  have hgm : _ ∈ r :: w2.heap.size :: T' := hd.ring.ring.ring_prev
  have c2 := CObj.c2 hd.obj
  have c3 := LObj.c3 (hd.ring.nodes r (by simp))
  have c4 := LObj.c0 (hd.ring.nodes _ hgm)
  have hTA : w2.heap.size :: T' = A ++ [upd (upd pv' w2.heap.size r) (nx' r) w2.heap.size r] := hA
  generalize upd (upd pv' w2.heap.size r) (nx' r) w2.heap.size r = g at *
  unfold ptr at c3
  have hgT : g ∈ w2.heap.size :: T' := by rw [hTA]; simp
  have hok := hd.ok g hgT
  have hgb := blockOf_of hd.keys hgT rfl
  have hn2 : (A ++ [g]).Nodup := by rw [← hTA]; exact (List.nodup_cons.1 hd.ring.ring.nodup).2
  have hdr := drop_block hd.keys hgb
  rw [hTA, filter_last hn2] at hdr
  rw [← hTA, map_front T' nd (k, v) hbT, H2.out] at hdr
  have hL2 : (k, v) :: dropL (T.map nd) k = A.map (upd nd w2.heap.size (k, v)) ++ [upd nd w2.heap.size (k, v) g] := by
    rw [← H2.out, ← map_front T' nd (k, v) hbT, hTA, List.map_append]; rfl
  have hAl : A.length = room := by
    have e1 := congrArg List.length hL2
    simp at e1
    have := H5.out
    have := HM.out
    omega
  have hgone : goneL room (T.map nd) k v = some (upd nd w2.heap.size (k, v) g).1 := by
    unfold goneL
    rw [hL2, List.getElem?_append_right (by simp [hAl])]
    simp [hAl]
  have htake : ((k, v) :: dropL (T.map nd) k).take room = A.map (upd nd w2.heap.size (k, v)) := by
    rw [hL2, List.take_append_of_le_length (by simp [hAl]), List.take_of_length_le (by simp [hAl])]
  have HD := Lib.hid hd
  have HOK := Lib.hid hok
  have HDR := Lib.hid hdr
  have HG := Lib.hid hgone
  have HT2 := Lib.hid htake
  have H9 := Lib.hid hS5.drew
  have HSub := Lib.hid sub
  have HLow := Lib.hid low
  have HA := Lib.hid hAl
  have HP := Lib.hid (map_front T' nd (k, v) hbT)
  clear hz hc4 hS4 hown hturn hm3 e5 hlt' hbT sub subT low hS5 hd hA hgm hTA hgT hok hgb hn2 hdr hL2 hAl hgone htake
  generalize (dropL (T.map nd) k).length + 1 = nn at hlen hle hle2
  go_region
  all_goals (
    go_wp2_with fail
    refine (drop_at HD.out HOK.out).mono ?_
    rintro e w5 ⟨rfl, T2, nx2, pv2, D2, u1, u2, u3, _, _, u6⟩
    have U1 := Lib.hid u1
    have U2 := Lib.hid u2
    have U3 := Lib.hid u3
    have U6 := Lib.hid u6
    clear u1 u2 u3 u6
    go_wp2_with fail
    go_ret2
    refine ⟨_, HG.out, rfl, ?_⟩
    have e1 := U2.out
    rw [HP.out, H2.out, HDR.out, ← HT2.out] at e1
    have e2 := congrArg List.length e1
    have sub2 : ∀ i, Foot c m r T2 i → Foot c m r (w2.heap.size :: T') i := fun i hi => by
      rcases hi with hi | hi | hi
      · exact Or.inl hi
      · exact Or.inr (Or.inl hi)
      · rcases List.mem_cons.1 hi with hi | hi
        · exact Or.inr (Or.inr (by simp [hi]))
        · exact Or.inr (Or.inr (List.mem_cons_of_mem _ (U3.out i hi)))
    refine ⟨_, ⟨m, r, _, _, _, _, _, U1.out, e1, fun _ => Iff.rfl, fun i hi => HLow.out i (HSub.out i (sub2 i hi)), by rw [List.length_map] at e2; rw [e2, List.length_take]; omega, hmr⟩, ?_, fun i hi => HSub.out i (sub2 i hi)⟩
    exact H9.out.trans U6.out HSub.out)
end

section
variable {w w' : World} {B c room : Nat} {F : Nat → Prop} {L : List (Int × ByteArray)}
theorem gone_none {k : Int} {v : ByteArray} (hle : (dropL L k).length + 1 ≤ room) : goneL room L k v = none := by
  unfold goneL
  rw [List.getElem?_eq_none (by simpa using hle)]
  rfl
theorem put_any (h : Cach B F c room L w) {k : Int} (hk : Ok k) (v : ByteArray) :
    Calls Try.prog 14 #[.pointer (some ⟨c, 0, none⟩), .int .i64 k, .string v] w fun e w' => e = .returned (putV room L k v) ∧ Left B F c room (putL room L k v) w w' := by
  by_cases hle : (dropL L k).length + 1 ≤ room
  · refine (put_fits h hk v hle).mono ?_
    rintro e w' ⟨rfl, hl⟩
    refine ⟨by unfold putV; rw [gone_none hle], ?_⟩
    unfold putL
    rw [List.take_of_length_le (by simpa using hle)]
    exact hl
  · refine (put_over h hk v hle).mono ?_
    rintro e w' ⟨g, hg, rfl, hl⟩
    exact ⟨by unfold putV; rw [hg], hl⟩
end
end Go.Proofs.Ytipnbggbejkhkaa.CI
