/-
  One instance of a cache: Get and Put, with the block of its map named.
-/
import Derived.Test.YtmloljjllmmkoaaGreatCA
namespace Go.Proofs.YtmloljjllmmkoaaGreat.CI
open Go.RowKit Go Go.Maps

/-- a cache, and the block of its map -/
def CachM (m B : Nat) (F : Nat → Prop) (c room : Nat) (L : List (Int × ByteArray)) (w : World) : Prop :=
  ∃ r T nd nx pv D, CacheAt c m r room T nd nx pv D w ∧ T.map nd = L ∧ (∀ k, F k ↔ Foot c m r T k) ∧ (∀ k, F k → B ≤ k) ∧ T.length ≤ room ∧ room ≤ 65536
def LeftM (m B : Nat) (F : Nat → Prop) (c room : Nat) (L : List (Int × ByteArray)) (w w' : World) : Prop :=
  ∃ F', CachM m B F' c room L w' ∧ Stir F w w' ∧ ∀ k, F' k → F k ∨ w.heap.size ≤ k
section
variable {w w' : World} {m B c room : Nat} {F : Nat → Prop} {L : List (Int × ByteArray)}
theorem Cach.named (h : Cach B F c room L w) : ∃ m, CachM m B F c room L w := h
theorem CachM.cach (h : CachM m B F c room L w) : Cach B F c room L w := ⟨m, h⟩
theorem CachM.stay {G : Nat → Prop} (h : CachM m B F c room L w) (k : Stir G w w') (hn : ∀ b, F b → ¬ G b) : CachM m B F c room L w' := by
  obtain ⟨r, T, nd, nx, pv, D, hc, hL, hF, hB⟩ := h
  exact ⟨r, T, nd, nx, pv, D, hc.stay k (fun b hb => hn b ((hF b).2 hb)), hL, hF, hB⟩
theorem CachM.later (h : CachM m B F c room L w) (k : Below w.heap.size w w') : CachM m B F c room L w' := h.stay (Stir.of_below (F := fun _ => False) k) (fun _ _ h => h)
theorem CachM.at_map (h : CachM m B F c room L w) : F m := by
  obtain ⟨r, T, nd, nx, pv, D, hc, hL, hF, hB⟩ := h
  exact (hF m).2 (.inr (.inl rfl))
/-- each other block of its own is of cells -/
theorem CachM.cells (h : CachM m B F c room L w) {k : Nat} (hk : F k) (hm : k ≠ m) : ∃ C t f, w.heap[k]? = some (.cells C t f) ∧ (t = 102 ∨ t = 104) := by
  obtain ⟨r, T, nd, nx, pv, D, hc, hL, hF, hB⟩ := h
  rcases (hF k).1 hk with rfl | e | e
  · exact ⟨_, _, _, hc.obj, .inl rfl⟩
  · exact absurd e hm
  · exact ⟨_, _, _, hc.ring.nodes k e, .inr rfl⟩
theorem CachM.map_is (h : CachM m B F c room L w) : ∃ es cl, w.heap[m]? = some (.map es cl) := by
  obtain ⟨r, T, nd, nx, pv, D, hc, hL, hF, hB⟩ := h
  obtain ⟨es, cl, e, _⟩ := hc.map
  exact ⟨es, cl, e⟩
theorem LeftM.drew (h : LeftM m B F c room L w w') : LeftM m B F c room L w w'.drew := by
  obtain ⟨F', ⟨r, T, nd, nx, pv, D, hc, h1⟩, h2, h3⟩ := h
  exact ⟨F', ⟨r, T, nd, nx, pv, D, hc.drew, h1⟩, h2.drew, h3⟩

set_option maxRecDepth 100000 in
set_option maxHeartbeats 1000000 in
theorem get_noneM (h : CachM m B F c room L w) {k : Int} (hk : Ok k) (hg : getL L k = none) :
    Calls Tryz.prog 163 #[.pointer (some ⟨c, 0, none⟩), .int .i64 k] w fun e w' => e = .returned (.tuple #[.string (⟨#[]⟩ : ByteArray), .bool false]) ∧ LeftM m B F c room L w w' := by
  have H := Lib.hid h
  obtain ⟨r, T, nd, nx, pv, D, hc, rfl, hF, hB, hft, hmr⟩ := h
  have hfind := find_any hc hk
  rw [get_block] at hg
  have hb : blockOf T nd k = none := by
    cases e : blockOf T nd k with
    | none => rfl
    | some b => rw [e] at hg; cases hg
  rw [hb] at hfind
  unfold ptrO at hfind
  clear hb hg hc hF hB hft hmr
  go_enter Tryz.func163, Tryz.ntmps163
  go_wp2_with fail
  refine hfind.mono ?_
  rintro e w1 ⟨rfl, hB⟩
  go_wp2_with fail
  go_ret2
  exact ⟨rfl, F, H.out.later hB, Stir.of_below hB, fun _ h => Or.inl h⟩

set_option maxRecDepth 100000 in
set_option maxHeartbeats 1000000 in
theorem get_someM (h : CachM m B F c room L w) {k : Int} (hk : Ok k) {v : ByteArray} (hg : getL L k = some v) :
    Calls Tryz.prog 163 #[.pointer (some ⟨c, 0, none⟩), .int .i64 k] w fun e w' => e = .returned (.tuple #[.string v, .bool true]) ∧ LeftM m B F c room ((k, v) :: dropL L k) w w' := by
  obtain ⟨r, T, nd, nx, pv, D, hc, rfl, hF, hB, hft, hmr⟩ := h
  have hfind := find_any hc hk
  rw [get_block] at hg
  obtain ⟨b, hb⟩ : ∃ b, blockOf T nd k = some b := by
    cases e : blockOf T nd k with
    | none => rw [e] at hg; cases hg
    | some b => exact ⟨b, rfl⟩
  rw [hb] at hg
  obtain rfl : (nd b).2 = v := Option.some.inj hg
  rw [hb] at hfind
  unfold ptrO at hfind
  have HB := Lib.hid hb
  have HC := Lib.hid hc
  have HF := Lib.hid hF
  have HL := Lib.hid hB
  have HM := Lib.hid hft
  clear hb hg hc hF hB hft
  go_enter Tryz.func163, Tryz.ntmps163
  go_wp2_with fail
  refine hfind.mono ?_
  rintro e w1 ⟨rfl, hB⟩
  have h1 := HC.out.later hB
  have hbT := (blockOf_some HB.out).1
  have HT := Lib.hid hbT
  have H1 := Lib.hid h1
  clear hfind
  go_wp2_with fail
  refine (leave_any h1.ring hbT).mono ?_
  rintro e w2 ⟨rfl, hr, ho, hs⟩
  have c2 := CObj.c2 (hs.keep h1.obj h1.c_ring)
  have HR := Lib.hid hr
  have HO := Lib.hid ho
  have HS := Lib.hid hs
  clear hr ho hs h1 hbT
  go_wp2_with fail
  refine (follow_any HR.out (by
    have hn := List.nodup_cons.1 HC.out.ring.ring.nodup
    intro hi
    rcases List.mem_cons.1 hi with e | hi
    · exact hn.1 (e ▸ HT.out)
    · simp at hi) _ _ _ HO.out).mono ?_
  rintro e w3 ⟨rfl, hr3, hs3⟩
  rw [upd_self] at hr3
  have c3 := LObj.c1 (hr3.nodes b (by simp))
  have HR3 := Lib.hid hr3
  have HS3 := Lib.hid hs3
  clear hr3 hs3 c2
  go_wp2_with fail
  go_ret2
  obtain ⟨u1, u2, u3⟩ := H1.out.used HT.out HS.out HR3.out HS3.out
  refine ⟨rfl, _, ⟨r, _, nd, _, _, D, u1, ?_, fun _ => Iff.rfl, fun i hi => HL.out i ((HF.out i).2 (u3 i hi)), by rw [List.length_cons, filter_length (List.nodup_cons.1 HC.out.ring.ring.nodup).2 HT.out]; exact HM.out, hmr⟩, (Stir.of_below hB).trans (u2.weaken (fun i hi => (HF.out i).2 hi)) (fun _ h => Or.inl h), fun i hi => Or.inl ((HF.out i).2 (u3 i hi))⟩
  rw [List.map_cons, drop_block HC.out.keys HB.out, ← (blockOf_some HB.out).2]
set_option maxRecDepth 100000 in
set_option maxHeartbeats 2000000 in
theorem put_fitsM (h : CachM m B F c room L w) {k : Int} (hk : Ok k) (v : ByteArray) (hle : (dropL L k).length + 1 ≤ room) :
    Calls Tryz.prog 22 #[.pointer (some ⟨c, 0, none⟩), .int .i64 k, .string v] w fun e w' => e = .returned (.tuple #[.int .i64 (0 : Int), .bool false]) ∧ LeftM m B F c room ((k, v) :: dropL L k) w w' := by
  obtain ⟨r, T, nd, nx, pv, D, hc, rfl, hF, hB, hft, hmr⟩ := h
  have HC := Lib.hid hc
  have HF := Lib.hid hF
  have HL := Lib.hid hB
  have HM := Lib.hid hft
  have HE := Lib.hid hle
  clear hc hF hB hft hle
  go_enter Tryz.func22, Tryz.ntmps22
  go_wp2_with fail
  refine (isKey_any k _).mono ?_
  rintro e w1 ⟨rfl, hB⟩
  go_wp2_with fail
  refine (drop_at (HC.out.later hB) hk).mono ?_
  rintro e w2 ⟨rfl, T', nx', pv', D', h1, h2, h3, h4, h5, h6⟩
  have H1 := Lib.hid h1
  have H2 := Lib.hid h2
  have H3 := Lib.hid h3
  have H4 := Lib.hid h4
  have H5 := Lib.hid h5
  have H6 := Lib.hid h6
  have hx := CacheAt.later h1 ((Below.refl _ w2).alloc (Nat.le_refl _) (LObj (k, v) (.pointer none) (.pointer none)))
  have c2 := CObj.c2 hx.obj
  unfold LObj at c2
  have HX := Lib.hid hx
  have hno : w2.heap.size ∉ r :: T' := h1.new_not (Nat.le_refl _)
  clear h1 h2 h3 h4 h5 h6 hx
  go_wp2_with fail
  refine (follow_any (b := w2.heap.size) (T := T') (x := (k, v)) (x1 := .pointer none) (x2 := .pointer none) HX.out.ring hno (heap_alloc_new _ _)).mono ?_
  rintro e w3 ⟨rfl, hr, hs⟩
  have c1 := CObj.c1 (hs.keep HX.out.obj (H1.out.c_new (Nat.le_refl _)))
  have hm3 : w3.ownsMap Tryz.prog 3 ptrElem m T'.length D' := by
    obtain ⟨es, clock, hb', rest⟩ := HX.out.map
    exact ⟨es, clock, hs.keep hb' (H1.out.m_new (Nat.le_refl _)), rest⟩
  have hs' : Stir (· ∈ r :: w2.heap.size :: T') w2 w3 := (Stir.of_below ((Below.refl _ w2).alloc (Nat.le_refl _) _)).trans hs (fun _ h => Or.inl h)
  have HR := Lib.hid hr
  have HS := Lib.hid hs'
  have hlt' : T'.length < maxLen := by have := H5.out; have := HM.out; unfold maxLen; omega
  clear hr hs hs' hno c2
  go_wp2_with (at_mapUpdate; refine wpList_mapUpdate_in _ rfl _ _ _ 100 rfl 3 98 law Tryz.underlying100 _ m T'.length D' rfl hm3 hlt' _ _ _ rfl rfl (key_of hk) (.lit (.int .i64 w2.heap.size)) [] rfl ?_; intro w4 hown hturn)
  obtain ⟨hc4, hS4⟩ := H1.out.new hk H4.out (Nat.le_refl _) HR.out HS.out hown hturn
  have c0 := CObj.c0 hc4.obj
  have c1 := CObj.c1 hc4.obj
  have hlen := World.ownsMap.len (w := w4.drew) hc4.map Tryz.underlying100
  have hz := hc4.size
  have e5 := congrArg List.length H2.out
  rw [List.length_map] at e5
  rw [List.length_cons, e5] at hz
  rw [hz] at hlen
  have hbT : w2.heap.size ∉ T' := fun e => H1.out.new_not (Nat.le_refl _) (List.mem_cons_of_mem _ e)
  have sub : ∀ i, Foot c m r (w2.heap.size :: T') i → F i ∨ w.heap.size ≤ i := fun i hi => by
    rcases hi with hi | hi | hi
    · exact Or.inl ((HF.out i).2 (Or.inl hi))
    · exact Or.inl ((HF.out i).2 (Or.inr (Or.inl hi)))
    · rcases List.mem_cons.1 hi with hi | hi
      · exact Or.inl ((HF.out i).2 (Or.inr (Or.inr (by simp [hi]))))
      · rcases List.mem_cons.1 hi with hi | hi
        · have := hB.size; have := H6.out.size; exact Or.inr (by omega)
        · exact Or.inl ((HF.out i).2 (Or.inr (Or.inr (List.mem_cons_of_mem _ (H3.out i hi)))))
  have subT : ∀ i, Foot c m r T' i → Foot c m r T i := fun i hi => by
    rcases hi with hi | hi | hi
    · exact Or.inl hi
    · exact Or.inr (Or.inl hi)
    · rcases List.mem_cons.1 hi with hi | hi
      · exact Or.inr (Or.inr (by simp [hi]))
      · exact Or.inr (Or.inr (List.mem_cons_of_mem _ (H3.out i hi)))
  have low : ∀ i, F i ∨ w.heap.size ≤ i → B ≤ i := fun i hi => by
    rcases hi with hi | hi
    · exact HL.out i hi
    · have := HL.out c ((HF.out c).2 (Or.inl rfl))
      have := HC.out.lt (Or.inl rfl)
      omega
  have hS5 : Stir F w w4 := (Stir.of_below hB).trans ((H6.out.trans hS4 (fun i hi => Or.inl (subT i hi))).weaken (fun i hi => (HF.out i).2 hi)) (fun i hi => Or.inl hi)
  have hle : (dropL (T.map nd) k).length + 1 ≤ room := HE.out
  have hQ : LeftM m B F c room ((k, v) :: dropL (T.map nd) k) w w4 := by
    refine ⟨_, ⟨r, _, _, _, _, _, hc4, ?_, fun _ => Iff.rfl, fun i hi => low i (sub i hi), by rw [List.length_cons, e5]; exact hle, hmr⟩, hS5, sub⟩
    rw [map_front T' nd (k, v) hbT, H2.out]
  have HQ := Lib.hid hQ.drew
  clear hz hc4 hS4 hown hturn hm3 e5 hlt' hbT sub subT low hS5 hQ
  generalize (dropL (T.map nd) k).length + 1 = nn at hlen hle
  go_region
  all_goals (go_wp2_with fail; go_ret2; exact ⟨rfl, HQ.out⟩)

set_option maxRecDepth 100000 in
set_option maxHeartbeats 2000000 in
theorem put_overM (h : CachM m B F c room L w) {k : Int} (hk : Ok k) (v : ByteArray) (hle : ¬ (dropL L k).length + 1 ≤ room) :
    Calls Tryz.prog 22 #[.pointer (some ⟨c, 0, none⟩), .int .i64 k, .string v] w fun e w' => ∃ g, goneL room L k v = some g ∧ e = .returned (.tuple #[.int .i64 g, .bool true]) ∧ LeftM m B F c room (((k, v) :: dropL L k).take room) w w' := by
  obtain ⟨r, T, nd, nx, pv, D, hc, rfl, hF, hB, hft, hmr⟩ := h
  have HC := Lib.hid hc
  have HF := Lib.hid hF
  have HL := Lib.hid hB
  have HM := Lib.hid hft
  have HE := Lib.hid hle
  clear hc hF hB hft hle
  go_enter Tryz.func22, Tryz.ntmps22
  go_wp2_with fail
  refine (isKey_any k _).mono ?_
  rintro e w1 ⟨rfl, hB⟩
  go_wp2_with fail
  refine (drop_at (HC.out.later hB) hk).mono ?_
  rintro e w2 ⟨rfl, T', nx', pv', D', h1, h2, h3, h4, h5, h6⟩
  have H1 := Lib.hid h1
  have H2 := Lib.hid h2
  have H3 := Lib.hid h3
  have H4 := Lib.hid h4
  have H5 := Lib.hid h5
  have H6 := Lib.hid h6
  have hx := CacheAt.later h1 ((Below.refl _ w2).alloc (Nat.le_refl _) (LObj (k, v) (.pointer none) (.pointer none)))
  have c2 := CObj.c2 hx.obj
  unfold LObj at c2
  have HX := Lib.hid hx
  have hno : w2.heap.size ∉ r :: T' := h1.new_not (Nat.le_refl _)
  clear h1 h2 h3 h4 h5 h6 hx
  go_wp2_with fail
  refine (follow_any (b := w2.heap.size) (T := T') (x := (k, v)) (x1 := .pointer none) (x2 := .pointer none) HX.out.ring hno (heap_alloc_new _ _)).mono ?_
  rintro e w3 ⟨rfl, hr, hs⟩
  have c1 := CObj.c1 (hs.keep HX.out.obj (H1.out.c_new (Nat.le_refl _)))
  have hm3 : w3.ownsMap Tryz.prog 3 ptrElem m T'.length D' := by
    obtain ⟨es, clock, hb', rest⟩ := HX.out.map
    exact ⟨es, clock, hs.keep hb' (H1.out.m_new (Nat.le_refl _)), rest⟩
  have hs' : Stir (· ∈ r :: w2.heap.size :: T') w2 w3 := (Stir.of_below ((Below.refl _ w2).alloc (Nat.le_refl _) _)).trans hs (fun _ h => Or.inl h)
  have HR := Lib.hid hr
  have HS := Lib.hid hs'
  have hlt' : T'.length < maxLen := by have := H5.out; have := HM.out; unfold maxLen; omega
  clear hr hs hs' hno c2
  go_wp2_with (at_mapUpdate; refine wpList_mapUpdate_in _ rfl _ _ _ 100 rfl 3 98 law Tryz.underlying100 _ m T'.length D' rfl hm3 hlt' _ _ _ rfl rfl (key_of hk) (.lit (.int .i64 w2.heap.size)) [] rfl ?_; intro w4 hown hturn)
  obtain ⟨hc4, hS4⟩ := H1.out.new hk H4.out (Nat.le_refl _) HR.out HS.out hown hturn
  have c0 := CObj.c0 hc4.obj
  have c1 := CObj.c1 hc4.obj
  have hlen := World.ownsMap.len (w := w4.drew) hc4.map Tryz.underlying100
  have hz := hc4.size
  have e5 := congrArg List.length H2.out
  rw [List.length_map] at e5
  rw [List.length_cons, e5] at hz
  rw [hz] at hlen
  have hbT : w2.heap.size ∉ T' := fun e => H1.out.new_not (Nat.le_refl _) (List.mem_cons_of_mem _ e)
  have sub : ∀ i, Foot c m r (w2.heap.size :: T') i → F i ∨ w.heap.size ≤ i := fun i hi => by
    rcases hi with hi | hi | hi
    · exact Or.inl ((HF.out i).2 (Or.inl hi))
    · exact Or.inl ((HF.out i).2 (Or.inr (Or.inl hi)))
    · rcases List.mem_cons.1 hi with hi | hi
      · exact Or.inl ((HF.out i).2 (Or.inr (Or.inr (by simp [hi]))))
      · rcases List.mem_cons.1 hi with hi | hi
        · have := hB.size; have := H6.out.size; exact Or.inr (by omega)
        · exact Or.inl ((HF.out i).2 (Or.inr (Or.inr (List.mem_cons_of_mem _ (H3.out i hi)))))
  have subT : ∀ i, Foot c m r T' i → Foot c m r T i := fun i hi => by
    rcases hi with hi | hi | hi
    · exact Or.inl hi
    · exact Or.inr (Or.inl hi)
    · rcases List.mem_cons.1 hi with hi | hi
      · exact Or.inr (Or.inr (by simp [hi]))
      · exact Or.inr (Or.inr (List.mem_cons_of_mem _ (H3.out i hi)))
  have low : ∀ i, F i ∨ w.heap.size ≤ i → B ≤ i := fun i hi => by
    rcases hi with hi | hi
    · exact HL.out i hi
    · have := HL.out c ((HF.out c).2 (Or.inl rfl))
      have := HC.out.lt (Or.inl rfl)
      omega
  have hS5 : Stir F w w4 := (Stir.of_below hB).trans ((H6.out.trans hS4 (fun i hi => Or.inl (subT i hi))).weaken (fun i hi => (HF.out i).2 hi)) (fun i hi => Or.inl hi)
  have hle : room < (dropL (T.map nd) k).length + 1 := by have := HE.out; omega
  have hle2 : decide ((dropL (T.map nd) k).length + 1 ≤ room) = false := by have := HE.out; simpa using this
  have hd := hc4.drew
  obtain ⟨A, hA⟩ := hd.ring.ring.last (by simp)
  have hgm : _ ∈ r :: w2.heap.size :: T' := hd.ring.ring.ring_prev
  have c2 := CObj.c2 hd.obj
  have c3 := LObj.c3 (hd.ring.nodes r (by simp))
  have c4 := LObj.c0 (hd.ring.nodes _ hgm)
  have hTA : w2.heap.size :: T' = A ++ [upd (upd pv' w2.heap.size r) (nx' r) w2.heap.size r] := hA
  generalize upd (upd pv' w2.heap.size r) (nx' r) w2.heap.size r = g at *
  unfold ptr at c3
  have hgT : g ∈ w2.heap.size :: T' := by rw [hTA]; simp
  have hok := hd.ok g hgT
  have hgb := blockOf_of hd.keys hgT rfl
  have hn2 : (A ++ [g]).Nodup := by rw [← hTA]; exact (List.nodup_cons.1 hd.ring.ring.nodup).2
  have hdr := drop_block hd.keys hgb
  rw [hTA, filter_last hn2] at hdr
  rw [← hTA, map_front T' nd (k, v) hbT, H2.out] at hdr
  have hL2 : (k, v) :: dropL (T.map nd) k = A.map (upd nd w2.heap.size (k, v)) ++ [upd nd w2.heap.size (k, v) g] := by
    rw [← H2.out, ← map_front T' nd (k, v) hbT, hTA, List.map_append]; rfl
  have hAl : A.length = room := by
    have e1 := congrArg List.length hL2
    simp at e1
    have := H5.out
    have := HM.out
    omega
  have hgone : goneL room (T.map nd) k v = some (upd nd w2.heap.size (k, v) g).1 := by
    unfold goneL
    rw [hL2, List.getElem?_append_right (by simp [hAl])]
    simp [hAl]
  have htake : ((k, v) :: dropL (T.map nd) k).take room = A.map (upd nd w2.heap.size (k, v)) := by
    rw [hL2, List.take_append_of_le_length (by simp [hAl]), List.take_of_length_le (by simp [hAl])]
  have HD := Lib.hid hd
  have HOK := Lib.hid hok
  have HDR := Lib.hid hdr
  have HG := Lib.hid hgone
  have HT2 := Lib.hid htake
  have H9 := Lib.hid hS5.drew
  have HSub := Lib.hid sub
  have HLow := Lib.hid low
  have HA := Lib.hid hAl
  have HP := Lib.hid (map_front T' nd (k, v) hbT)
  clear hz hc4 hS4 hown hturn hm3 e5 hlt' hbT sub subT low hS5 hd hA hgm hTA hgT hok hgb hn2 hdr hL2 hAl hgone htake
  generalize (dropL (T.map nd) k).length + 1 = nn at hlen hle hle2
  go_region
  all_goals (
    go_wp2_with fail
    refine (drop_at HD.out HOK.out).mono ?_
    rintro e w5 ⟨rfl, T2, nx2, pv2, D2, u1, u2, u3, _, _, u6⟩
    have U1 := Lib.hid u1
    have U2 := Lib.hid u2
    have U3 := Lib.hid u3
    have U6 := Lib.hid u6
    clear u1 u2 u3 u6
    go_wp2_with fail
    go_ret2
    refine ⟨_, HG.out, rfl, ?_⟩
    have e1 := U2.out
    rw [HP.out, H2.out, HDR.out, ← HT2.out] at e1
    have e2 := congrArg List.length e1
    have sub2 : ∀ i, Foot c m r T2 i → Foot c m r (w2.heap.size :: T') i := fun i hi => by
      rcases hi with hi | hi | hi
      · exact Or.inl hi
      · exact Or.inr (Or.inl hi)
      · rcases List.mem_cons.1 hi with hi | hi
        · exact Or.inr (Or.inr (by simp [hi]))
        · exact Or.inr (Or.inr (List.mem_cons_of_mem _ (U3.out i hi)))
    refine ⟨_, ⟨r, _, _, _, _, _, U1.out, e1, fun _ => Iff.rfl, fun i hi => HLow.out i (HSub.out i (sub2 i hi)), by rw [List.length_map] at e2; rw [e2, List.length_take]; omega, hmr⟩, ?_, fun i hi => HSub.out i (sub2 i hi)⟩
    exact H9.out.trans U6.out HSub.out)
theorem put_anyM (h : CachM m B F c room L w) {k : Int} (hk : Ok k) (v : ByteArray) :
    Calls Tryz.prog 22 #[.pointer (some ⟨c, 0, none⟩), .int .i64 k, .string v] w fun e w' => e = .returned (putV room L k v) ∧ LeftM m B F c room (putL room L k v) w w' := by
  by_cases hle : (dropL L k).length + 1 ≤ room
  · refine (put_fitsM h hk v hle).mono ?_
    rintro e w' ⟨rfl, hl⟩
    refine ⟨by unfold putV; rw [gone_none hle], ?_⟩
    unfold putL
    rw [List.take_of_length_le (by simpa using hle)]
    exact hl
  · refine (put_overM h hk v hle).mono ?_
    rintro e w' ⟨g, hg, rfl, hl⟩
    exact ⟨by unfold putV; rw [hg], hl⟩
end
end Go.Proofs.YtmloljjllmmkoaaGreat.CI

