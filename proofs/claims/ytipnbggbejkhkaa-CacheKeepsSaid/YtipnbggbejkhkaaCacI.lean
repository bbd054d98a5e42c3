/-
  The reference: Put.
-/
import Derived.Test.YtipnbggbejkhkaaCacH
import Derived.OwnWalk
import Derived.Maps.AppendAt
import Derived.Laws.AppendOwnNone
namespace Go.Proofs.Ytipnbggbejkhkaa
open Go.RowKit Go

theorem drop_last {A : List (Int × ByteArray)} {x : Int × ByteArray} (hn : (keysL (A ++ [x])).Nodup) : dropL (A ++ [x]) x.1 = A := by
  unfold dropL
  rw [List.filter_append, List.filter_cons_of_neg (by simp), List.filter_nil, List.append_nil]
  refine List.filter_eq_self.2 fun y hy => ?_
  unfold keysL at hn
  rw [List.map_append, List.nodup_append] at hn
  have := hn.2.2 y.1 (List.mem_map.2 ⟨y, hy, rfl⟩) x.1 (by simp)
  simpa using this
theorem nodup_put {L : List (Int × ByteArray)} (hn : (keysL L).Nodup) (k : Int) (s : ByteArray) : (keysL ((k, s) :: dropL L k)).Nodup := by
  unfold keysL at *
  rw [List.map_cons, List.nodup_cons]
  refine ⟨fun h => ?_, (List.Sublist.map _ List.filter_sublist).nodup hn⟩
  obtain ⟨x, hx, e⟩ := List.mem_map.1 h
  have := (List.mem_filter.1 hx).2
  simp at this
  exact this e
theorem dropL_le (L : List (Int × ByteArray)) (k : Int) : (dropL L k).length ≤ L.length := List.length_filter_le _ _

section
variable {w w' : World} {B m room : Nat} {G : Nat → Prop} {v : Value} {L : List (Int × ByteArray)}

theorem RefAt.heap (h : RefAt B G m room v L w) (e : w'.heap = w.heap) : RefAt B G m room v L w' :=
  ⟨by rw [e]; exact h.obj, ownsRow_of_block h.row (fun k _ => by rw [e]), h.own, h.apart, h.low⟩
theorem Stir.heap {F : Nat → Prop} {u : World} (h : Stir F w u) (e : w'.heap = u.heap) (e1 : w'.os = u.os) (e2 : w'.tape = u.tape) (e3 : w'.output = u.output) : Stir F w w' :=
  ⟨e1.trans h.os, e2.trans h.tape, e3.trans h.output, by rw [e]; exact h.size, fun k hk hn => by rw [e]; exact h.block k hk hn⟩

set_option maxRecDepth 100000 in
set_option maxHeartbeats 4000000 in
theorem rput_any (h : RefAt B G m room v L w) (hL : L.length ≤ room) (hr1 : 1 ≤ room) (hr : room ≤ 65536) (hn : (keysL L).Nodup) (k : Int) (s : ByteArray) :
    Calls Try.prog 15 #[.pointer (some ⟨m, 0, none⟩), .int .i64 k, .string s] w fun e w' => e = .returned (CI.putV room L k s) ∧ RefLeft B G m room (putL room L k s) w w' := by
  obtain ⟨i0, hi0, hz0, hz1, hz2⟩ := info_parts info64
  have hdrop := rdrop_any h (by omega) hn k
  have hle1 := dropL_le L k
  have HN := Lib.hid (nodup_put hn k s)
  have H := Lib.hid h
  clear h
  obtain ⟨pv, hpv⟩ : ∃ pv, CI.putV room L k s = pv := ⟨_, rfl⟩
  obtain ⟨pl, hpl⟩ : ∃ pl, putL room L k s = pl := ⟨_, rfl⟩
  rw [hpv, hpl]
  have HV : ∀ o : Option (Int × ByteArray), ((k, s) :: dropL L k)[room]? = o → pv = match o.map (·.1) with | some g => .tuple #[.int .i64 g, .bool true] | none => .tuple #[.int .i64 0, .bool false] := fun o ho => by
    rw [← hpv]; unfold CI.putV goneL; rw [ho]; rfl
  have HV := Lib.hid HV
  have HP := Lib.hid (show ((k, s) :: dropL L k).take room = pl from hpl)
  clear hpv hpl
  have HL2 := Lib.hid (show ((k, s) :: dropL L k).length = (dropL L k).length + 1 from rfl)
  clear hn
  generalize dropL L k = L1 at *
  go_enter Try.func15, Try.ntmps15
  go_wp2_with fail
  refine hdrop.mono ?_
  rintro e w1 ⟨rfl, v1, G1, h1, hS1, hG1⟩
  have H1 := Lib.hid h1
  have HS1 := Lib.hid hS1
  have HG1 := Lib.hid hG1
  have O1 := Lib.hid (World.ownsRow_lit (e := 64) (size := 2) w1 #[.int .i64 k, .string s] 1 (Nat.le_refl _) (by decide) rfl)
  have hlit := h1.later ((Below.refl _ w1).alloc (Nat.le_refl _) (.cells #[.int .i64 k, .string s] 64))
  have c1 := RefObj.c1 hlit.obj
  have HA := Lib.hid hlit
  have hsh := row_shape h1.row
  have hcase : v1 = .slice none 0 0 ∨ ∃ g cap cur, v1 = .slice (some ⟨g, 0, none⟩) L1.length cap ∧ w1.heap[g]? = some (.cells cur 64 (0, 0)) ∧ cur.toList.take (L1.length * 2) = thingCells L1 := by
    rcases h1.row.2 with ⟨e, _⟩ | ⟨g, cap, cur, e, _, e2, _, _, _, e3⟩
    · exact Or.inl e
    · exact Or.inr ⟨g, cap, cur, e, e2, e3⟩
  have HR1 := Lib.hid h1.row
  have HO1 := Lib.hid h1.obj
  have hTc : ∀ (a2 : Option Addr) (cap2 : Nat) (w2 : World), w2.ownsRow w1.heap.size 64 2 (.slice a2 (1 + L1.length) cap2) (1 + L1.length) (thingCells ((k, s) :: L1)) → w2.ownsRow w1.heap.size 64 2 (.slice a2 (1 + L1.length) cap2) ((k, s) :: L1).length (thingCells ((k, s) :: L1)) := fun a2 cap2 w2 h => by
    rw [List.length_cons, Nat.add_comm L1.length 1]; exact h
  have HTC := Lib.hid hTc
  clear h1 hS1 hG1 hlit hdrop hTc
  rcases hcase with rfl | ⟨g, cap, cur, rfl, hg, hcur⟩
  · have hl0 : L1.length = 0 := by
      rcases HR1.out.2 with ⟨_, e⟩ | ⟨_, _, _, e, _⟩
      · exact e
      · cases e
    obtain rfl : L1 = [] := List.eq_nil_of_length_eq_zero hl0
    obtain ⟨w2, hw2⟩ : ∃ w2, w1.alloc (.cells #[.int .i64 k, .string s] 64) = w2 := ⟨_, rfl⟩
    have hB2 : Below w1.heap.size w1 w2 := by rw [← hw2]; exact (Below.refl _ w1).alloc (Nat.le_refl _) _
    have O2 := Lib.hid (by rw [← hw2]; exact O1.out : w2.ownsRow w1.heap.size 64 2 (.slice (some ⟨w1.heap.size, 0, none⟩) 1 1) 1 [.int .i64 k, .string s])
    have O3 := Lib.hid (HTC.out (some ⟨w1.heap.size, 0, none⟩) 1 w2 O2.out)
    have ho := keeps_of hB2 HO1.out
    have f1 := RefObj.fr ho 1
    rw [hw2] at c1
    obtain ⟨w3, hw3⟩ : ∃ w3, w2.setCell ⟨m, 1, none⟩ (.slice (some ⟨w1.heap.size, 0, none⟩) 1 1) = w3 := ⟨_, rfl⟩
    have hU : RefAt B (fun i => i = m ∨ (Value.slice (some ⟨w1.heap.size, 0, none⟩) 1 1).ownBlock = some i) m room (.slice (some ⟨w1.heap.size, 0, none⟩) 1 1) [(k, s)] w3 ∧ Stir G1 w1 w3 ∧ ∀ i, i = m ∨ (Value.slice (some ⟨w1.heap.size, 0, none⟩) 1 1).ownBlock = some i → G1 i ∨ w1.heap.size ≤ i := by
      rw [← hw3]; exact H1.out.stored_at hB2 O3.out
    have HU := Lib.hid hU
    clear hU hB2 ho hl0 hsh
    go_wp2_with (at_builtin; refine wpList_append_own_none rfl _ _ 32 rfl w1.heap.size 64 i0 2 Try.underlying32 hi0 _ 1 _ rfl O2.out rfl ?_)
    have HQ : ∀ w', w'.heap = w3.heap → w'.os = w3.os → w'.tape = w3.tape → w'.output = w3.output → RefLeft B G m room ([(k, s)]) w w' := fun w' e1 e2 e3 e4 =>
      ⟨_, _, HU.out.1.heap e1, (HS1.out.trans (HU.out.2.1) HG1.out).heap e1 e2 e3 e4, fun i hi => by
        rcases HU.out.2.2 i hi with h | h
        · exact HG1.out i h
        · have := HS1.out.size; exact Or.inr (by omega)⟩
    have HQ := Lib.hid HQ
    have c0 := RefObj.c0 HU.out.1.obj
    have c1 := RefObj.c1 HU.out.1.obj
    have hle : (1 : Int) ≤ (room : Int) := by omega
    have hgn := Lib.hid (show ([(k, s)] : List (Int × ByteArray))[room]? = none from List.getElem?_eq_none (by simpa using hr1))
    have htk := Lib.hid (show ([(k, s)] : List (Int × ByteArray)).take room = [(k, s)] from List.take_of_length_le (by simpa using hr1))
    go_region
    all_goals (go_wp2_with fail; go_ret2; exact ⟨by rw [HV.out _ hgn.out]; rfl, by rw [← HP.out, htk.out]; exact HQ.out _ rfl rfl rfl rfl⟩)
  · have N1 := Lib.hid (show ∀ j u, (thingCells L1)[j]? = some u → (w1.alloc (.cells #[.int .i64 k, .string s] 64)).cell? ((⟨g, 0, none⟩ : Addr).add j) = some u by
      have := news_of_cut (w := w1.alloc (.cells #[.int .i64 k, .string s] 64)) (by rw [Below.heap_alloc _ _ _ (lt_of_heap hg)]; exact hg) 0 (L1.length * 2)
      rw [List.drop_zero, hcur] at this
      exact this)
    have hlen2 := thingCells_len L1
    have hone := thingCells_one L1
    clear hg hcur hsh
    go_wp2_with (at_builtin; refine wpList_append_own _ rfl _ _ 32 rfl w1.heap.size 64 i0 _ 2 24 Try.underlying32 hi0 hz0 hz1 hz2 rfl (by decide) _ 1 _ rfl O1.out ⟨g, 0, none⟩ L1.length cap (thingCells L1) rfl hlen2 N1.out hone (by unfold maxLen; omega) (by omega) (by simp) ?_; intro v2 w2 hown2 hgrow2 _; have hB2 : Below w1.heap.size w1 w2 := ((Below.refl _ w1).alloc (Nat.le_refl _) _).grown hgrow2 (by simp) (fun j e => (O1.out.lt j e).1); obtain ⟨a2, cap2, rfl⟩ := row_shape hown2; have O3 := Lib.hid (HTC.out a2 cap2 w2 hown2); have ho := keeps_of hB2 HO1.out; have c1 := RefObj.c1 ho; have f1 := RefObj.fr ho 1; obtain ⟨w3, hw3⟩ : ∃ w3, w2.setCell ⟨m, 1, none⟩ (.slice a2 (1 + L1.length) cap2) = w3 := ⟨_, rfl⟩; have hU := H1.out.stored_at hB2 O3.out; rw [hw3] at hU; have HU := Lib.hid hU; have HB2 := Lib.hid hB2; clear hU hB2 ho hown2 hgrow2)
    have HQ : ∀ w', w'.heap = w3.heap → w'.os = w3.os → w'.tape = w3.tape → w'.output = w3.output → RefLeft B G m room ((k, s) :: L1) w w' := fun w' e1 e2 e3 e4 =>
      ⟨_, _, HU.out.1.heap e1, (HS1.out.trans (HU.out.2.1) HG1.out).heap e1 e2 e3 e4, fun i hi => by
        rcases HU.out.2.2 i hi with h | h
        · exact HG1.out i h
        · have := HS1.out.size; exact Or.inr (by omega)⟩
    have HQ := Lib.hid HQ
    have c0 := RefObj.c0 HU.out.1.obj
    have c1 := RefObj.c1 HU.out.1.obj
    by_cases hfit : 1 + L1.length ≤ room
    · have hgn := Lib.hid (show ((k, s) :: L1)[room]? = none from List.getElem?_eq_none (by rw [List.length_cons]; omega))
      have htk := Lib.hid (show ((k, s) :: L1).take room = (k, s) :: L1 from List.take_of_length_le (by rw [List.length_cons]; omega))
      have hfi : 1 + (L1.length : Int) ≤ (room : Int) := by omega
      go_region
      all_goals (go_wp2_with fail; go_ret2; exact ⟨by rw [HV.out _ hgn.out]; rfl, by rw [← HP.out, htk.out]; exact HQ.out _ rfl rfl rfl rfl⟩)
    · have hfi : (room : Int) < 1 + (L1.length : Int) := by omega
      have hfi2 : room < 1 + L1.length := by omega
      have hrl : room < ((k, s) :: L1).length := by rw [List.length_cons]; omega
      obtain ⟨g3, cap3, e3, -, -, -, -, h4, -⟩ := HU.out.1.thing hrl
      obtain ⟨z, hz⟩ : ∃ z, ((k, s) :: L1)[room] = z := ⟨_, rfl⟩
      rw [hz] at h4
      have hgn := Lib.hid (show ((k, s) :: L1)[room]? = some z by rw [List.getElem?_eq_getElem hrl, hz])
      have hLz : (k, s) :: L1 = ((k, s) :: L1).take room ++ [z] := by
        conv => lhs; rw [← List.take_append_drop room ((k, s) :: L1)]
        congr 1
        rw [List.drop_eq_getElem_cons hrl, hz, List.drop_of_length_le (by rw [List.length_cons]; omega)]
      have hdl : dropL ((k, s) :: L1) z.1 = ((k, s) :: L1).take room := by
        have hn2 := HN.out
        rw [hLz] at hn2
        have := drop_last hn2
        rw [← hLz] at this
        exact this
      have HDL := Lib.hid hdl
      obtain ⟨rfl, rfl⟩ : a2 = some ⟨g3, 0, none⟩ ∧ cap2 = cap3 := by simp at e3; exact ⟨e3.1, e3.2.2⟩
      clear hdl hLz hz e3 hrl
      go_region
      all_goals (
        go_wp2_with fail
        go_region
        all_goals (
          go_wp2_with fail
          refine (rdrop_any (RefAt.heap (w' := w3.drew.drew) HU.out.1 rfl) (by rw [List.length_cons]; omega) HN.out z.1).mono ?_
          rintro e w4 ⟨rfl, v4, G4, h4, hS4, hG4⟩
          have H4 := Lib.hid h4
          have HS4 := Lib.hid hS4
          have HG4 := Lib.hid hG4
          clear h4 hS4 hG4
          go_wp2_with fail
          go_ret2
          refine ⟨by rw [HV.out _ hgn.out]; rfl, ?_⟩
          rw [← HP.out, ← HDL.out]
          have hsub : ∀ i, (i = m ∨ (Value.slice (some ⟨g3, 0, none⟩) (1 + L1.length) cap2).ownBlock = some i) → G i ∨ w.heap.size ≤ i := fun i hi => by
            rcases HU.out.2.2 i hi with h | h
            · exact HG1.out i h
            · have := HS1.out.size; exact Or.inr (by omega)
          refine ⟨v4, G4, H4.out, (HS1.out.trans HU.out.2.1 HG1.out).drew.drew.trans HS4.out hsub, fun i hi => ?_⟩
          rcases HG4.out i hi with h | h
          · exact hsub i h
          · have h1 := HS1.out.size
            have h2 := HU.out.2.1.size
            have h3 : w3.heap.size ≤ i := h
            exact Or.inr (by omega)))
end
end Go.Proofs.Ytipnbggbejkhkaa
