/-
  However bytes are cut into pieces, and wherever sums are asked between, the sum is that of all of them, and has eight bytes: for every key and every list of texts, of which the first hundred, up to a mebibyte and one text more, are written.
  Conditions: none besides the row's own.
-/
import Derived.Test.YtojafgomckljiaaDigK
import Derived.SliceStrings
namespace Go.Proofs.Ytojafgomckljiaa.pieces
open Go.ChangeShapes Go.WideShapes Go.ChangeAt Go.RowKit Go

set_option maxRecDepth 100000 in
set_option maxHeartbeats 8000000 in
theorem walk (key : ByteArray) (a : Option Addr) (n cap : Nat) (l : List ByteArray) (w : World) (hk : key.size ≤ 140737488351232) (_hn : n ≤ 140737488351232) (hl : l.length = n)
    (hsz : ∀ j (h : j < n), (l[j]'(by omega)).size ≤ 140737488351232)
    (ha : n ≠ 0 → ∃ b off, a = some ⟨b, off, none⟩ ∧ b < w.heap.size ∧ ∀ j (h : j < n), w.cell? ⟨b, off + j, none⟩ = some (.string (l[j]'(by omega)))) :
    Calls Try.prog 4 #[.string key, .slice a n cap] w fun r w' => r = .returned (.bool true) ∧ Below w.heap.size w w' := by
  by_cases h16 : key.size = 16
  · have HA := Lib.hid ha
    have HS := Lib.hid hsz
    clear ha hsz
    go_enter Try.func4, Try.ntmps4
    go_wp2_with fail
    refine (new_any key h16 _).mono ?_
    rintro e w1 ⟨b, rfl, hb, H1, B1⟩
    go_wp2_with fail
    go_loopw [7, 8] (fun s i wr => ∃ (k : Nat) (A : ByteArray), k ≤ n ∧ k ≤ 100 ∧ i = .int .i64 k ∧ s = .string A ∧ A.size ≤ 140737489399808 ∧ wr.heap[b]? = some (HObj (puts (new key.data.toList) A.data.toList)) ∧ Below w.heap.size w wr) (fun _ i _ => n - (intOf i).toNat)
    case atStart => exact ⟨0, ⟨#[]⟩, Nat.zero_le _, Nat.zero_le _, rfl, rfl, by decide, H1, B1⟩
    case round =>
      obtain ⟨k, A, hkn, hk100, rfl, rfl, hA, H2, B2⟩ := hrel
      by_cases hgo : k < n ∧ k < 100 ∧ A.size < 1048576
      · obtain ⟨g1, g2, g3⟩ := hgo
        obtain ⟨b', off, rfl, hb', hcell⟩ := HA.out (by omega)
        have hc0 := hcell k g1
        have hs0 := HS.out k g1
        have i1 : (k : Int) < (n : Int) := by omega
        have i2 : (k : Int) < 100 := by omega
        have i3 : (A.size : Int) < 1048576 := by omega
        generalize l[k]'(by omega) = S at hc0 hs0
        have hcw : wr.cell? ⟨b', off + k, none⟩ = some (.string S) := (B2.cell (p := ⟨b', off + k, none⟩) hb').trans hc0
        have nsum : ¬ 9223372036854775807 < A.size + S.size := by omega
        obtain ⟨A2, e2⟩ : ∃ A2, A ++ S = A2 := ⟨_, rfl⟩
        have hA2 : A2.size ≤ 140737489399808 := by rw [← e2, ByteArray.size_append]; omega
        have HL2 := Lib.hid (show A2.data.toList = A.data.toList ++ S.data.toList by rw [← e2]; simp)
        have HA2 := Lib.hid hA2
        clear hA2 hc0
        generalize hh : puts (new key.data.toList) A.data.toList = h0 at H2
        have HH := Lib.hid hh
        clear hh
        go_wp2_with fail
        refine (write_any b h0 S (by omega) _ H2).mono ?_
        rintro e w3 ⟨⟨v, rfl⟩, T3⟩
        have hcw3 : w3.cell? ⟨b', off + k, none⟩ = some (.string S) := (World.cell?_of_block (w := wr) (T3.block b' (by omega))).trans hcw
        have H3 := T3.here
        have B3 := B2.trans (T3.below hb)
        clear T3 H2 B2 hcw
        generalize hh2 : puts h0 S.data.toList = h2 at H3
        have HH2 := Lib.hid (show puts (new key.data.toList) A2.data.toList = h2 by rw [HL2.out, puts_append, HH.out, hh2])
        clear hh2
        by_cases hm : k % 3 = 1
        · have m1 : ((k : Int) % 3 == 1) = true := by simp; omega
          have m2 : ((k : Int).tmod 3 == 1) = true := by rw [Int.tmod_eq_emod_of_nonneg (by omega)]; exact m1
          clear hm
          go_wp2_with fail
          refine (sum_any b h2 _ H3).mono ?_
          rintro e w4 ⟨rfl, B4⟩
          have H4 := HObj.later H3 B4
          have B5 := B3.trans (B4.mono B3.size)
          clear H3 B3 B4 hcw3
          go_wp2_with fail
          refine (sum_any b h2 _ H4).mono ?_
          rintro e w5 ⟨rfl, B6⟩
          have H5 := HObj.later H4 B6
          have B7 := B5.trans (B6.mono B5.size)
          clear H4 B5 B6
          generalize bs (sumOf h2) = Y
          go_wp2
          go_roundw
          case rel => exact ⟨k + 1, A2, by omega, by omega, by go_num, rfl, HA2.out, by rw [HH2.out]; exact H5, B7⟩
          case measure => simp [intOf]; omega
        · have m1 : ((k : Int) % 3 == 1) = false := by simp; omega
          have m2 : ((k : Int).tmod 3 == 1) = false := by rw [Int.tmod_eq_emod_of_nonneg (by omega)]; exact m1
          clear hm
          go_wp2
          go_roundw
          case rel => exact ⟨k + 1, A2, by omega, by omega, by go_num, rfl, HA2.out, by rw [HH2.out]; exact H3, B3⟩
          case measure => simp [intOf]; omega
      · have hV := Lib.hid (sumV_is (key := key) (s := A) h16)
        have hX := sum_size key.data.toList A.data.toList
        have hY := Lib.hid (show bs (sumOf (puts (new key.data.toList) A.data.toList)) = bs (sum key.data.toList A.data.toList) from rfl)
        generalize bs (sum key.data.toList A.data.toList) = X at hV hX hY
        have hX2 : (X.size : Int) = 8 := by rw [hX]; rfl
        have hcut : (¬ (k : Int) < (n : Int)) ∨ ((k : Int) < (n : Int) ∧ ¬ (k : Int) < 100) ∨ ((k : Int) < (n : Int) ∧ (k : Int) < 100 ∧ ¬ (A.size : Int) < 1048576) := by omega
        clear hgo
        rcases hcut with g | ⟨g, g2⟩ | ⟨g, g2, g3⟩
        all_goals
          go_wp2_with fail
          refine (dsum_any key A (by omega) (by omega) _).mono ?_
          rintro e w4 ⟨rfl, B4⟩
          rw [hV.out]
          have H4 := HObj.later H2 B4
          have B5 := B2.trans (B4.mono B2.size)
          clear H2 B2 B4
          go_wp2_with fail
          refine (fixed_any _).mono ?_
          rintro e w6 ⟨rfl, B8⟩
          have H6 := HObj.later H4 B8
          have B9 := B5.trans (B8.mono B5.size)
          clear H4 B5 B8
          go_wp2_with fail
          refine (sum_any b _ _ H6).mono ?_
          rintro e w7 ⟨rfl, B10⟩
          rw [hY.out]
          go_wp2
          go_ret
          exact ⟨rfl, B9.trans (B10.mono B9.size)⟩
  · have hn : ((key.size : Int) != 16) = true := by simp; omega
    go_enter Try.func4, Try.ntmps4
    go_wp2_with fail
    refine (new_wrong key h16 (by omega) _).mono ?_
    rintro e w1 ⟨rfl, rfl⟩
    go_wp2_with fail
    refine (fixed_any _).mono ?_
    rintro e w2 ⟨rfl, B⟩
    go_wp2
    go_ret
    exact ⟨rfl, B⟩

theorem laidOut : laidOutB Try.prog = true := by kernel_rfl
theorem cells9 : Try.prog.cellsOf 9 = 1 := by kernel_rfl
theorem bytes9 : Try.prog.bytesOf 9 = 16 := by kernel_rfl
theorem addr_plain (b off j : Nat) : Addr.add ⟨b, off, none⟩ j = ⟨b, off + j, none⟩ := Addr.add_lit b off j

theorem weights_strs {H : Type} (P : Program) (e : TypeId) : ∀ (l : List ByteArray) (s : ByteArray), s ∈ l → s.data.toList.length ∈ DataW.weightsAll P e (strs (H := H) l)
  | x :: r, s, h => by
    rcases List.mem_cons.1 h with rfl | h
    · simp [strs, DataW.weightsAll, DataW.weights]
    · have := weights_strs (H := H) P e r s h
      simp only [strs, List.map_cons, DataW.weightsAll, List.mem_append]
      exact Or.inr this
  | [], _, h => by cases h
/-- each text of a list that came in is as long as a text may be -/
theorem sized_strs {H : Type} {P : Program} {ts : List TypeId} {ds : List (DataW H)} {t e : TypeId} {xs ys : List ByteArray} {j : Nat} (h : (DataW.weightsEach P ts ds).all (· ≤ reachBytes) = true)
    (ht : ts[j]? = some t) (hd : ds[j]? = some (.slice (strs xs) (strs ys))) (hu : P.underlying t = some (.slice e)) (s : ByteArray) (hs : s ∈ xs) : s.size ≤ 140737488351232 := by
  have := List.all_eq_true.1 h _ (DataW.weights_mem_each ht hd s.data.toList.length (by
    simp only [DataW.weights, hu]
    exact List.mem_cons_of_mem _ (List.mem_append.2 (Or.inl (weights_strs P e xs s hs)))))
  exact reach_size (by simpa using this)

/-- WHAT THE WALK GIVES, for every argument that can be read. -/
theorem contract (H : Type) (enc : TypeId × Value → H) (W : World) (base : Nat) (args : Array Value) (ds gs : List (DataW H)) (before : List MemPlace)
    (hval : ∀ (j : Nat) t v, Try.f4.params[j]? = some t → args[j]? = some v → Value.okWide Try.prog W .any base t v)
    (hW : DataW.Whole enc Try.prog Try.f4.params.toList Rows.digestPiecesSpec.vars false W args.toList ds gs before)
    (hreach : (DataW.weightsEach Try.prog (Try.f4.params.toList) ds).all (· ≤ reachBytes) = true) :
    Calls Try.prog 4 args W fun e W' => ∃ v, e = .returned v ∧ Rows.digestPiecesSpec.post enc Try.prog Try.f4 false true false false W args v W' := by
  have hW' := hW
  obtain ⟨p, q, hA0, hV, rfl, hfz, hnd⟩ := hW
  have hA : DataW.TrodAll enc Try.prog W 0 (fun _ => true) true Try.f4.params.toList args.toList ds p := hA0
  rw [Try.params4] at hA hval hreach
  obtain ⟨v0, v1, d0, d1, p0, p1, rfl, rfl, rfl, h0, h1⟩ := trodAll_two hA
  obtain ⟨rfl, rfl⟩ := trodVars_none hV
  obtain ⟨s0, rfl, rfl, rfl, ws0⟩ := Go.ChangeMaps.open_string Try.underlying9 (hval 0 9 v0 rfl rfl) h0
  have r0 := reach_size (sized_string hreach (j := 0) rfl rfl)
  obtain ⟨a0, len, cap, rfl⟩ := okWide_slice Try.underlying27 (hval 1 27 v1 rfl rfl)
  clear hA0 hval
  simp only [List.append_nil] at hW'
  have hlt : ∀ x ∈ p1, x.block < W.heap.size := fun x hx => hW'.lt x (by simpa using hx)
  have key : ∃ l : List ByteArray, l.length = len ∧ len ≤ 140737488351232 ∧ (∀ j (h : j < l.length), (l[j]).size ≤ 140737488351232) ∧
      (len ≠ 0 → ∃ b off, a0 = some ⟨b, off, none⟩ ∧ b < W.heap.size ∧ ∀ j (h : j < l.length), W.cell? ⟨b, off + j, none⟩ = some (.string l[j])) := by
    by_cases hl0 : len = 0
    · subst hl0
      refine ⟨[], rfl, by omega, ?_, fun h => absurd rfl h⟩
      intro j h; exact absurd h (Nat.not_lt_zero j)
    · obtain ⟨fuel, hf⟩ := id h1
      rcases open_strings Try.underlying27 Try.underlying9 cells9 hf with ⟨hcs, hx⟩ | ⟨a, len', cap', ss, hcs, _, hl, hm, hz, hx, hcell, hsz⟩
      · simp [Value.cells] at hcs
        exact absurd hcs.2.1 hl0
      · simp [Value.cells] at hcs
        obtain ⟨rfl, rfl, rfl⟩ := hcs
        simp only [Prod.mk.injEq] at hx
        obtain ⟨rfl, rfl⟩ := hx
        simp only [if_true] at hz
        have hr : len * 16 ≤ 140737488351232 := by
          have := sized_slice hreach (j := 1) (t := 27) (e := 9) rfl rfl Try.underlying27
          rw [bytes9] at this
          simp only [strs, List.length_map, List.length_take, List.length_drop, reachBytes] at this
          omega
        obtain ⟨b, off, spot⟩ := a
        have hspot : spot = none := by simpa [Addr.add] using World.cell?_spot (hcell 0 (by omega))
        subst hspot
        have hbW : b < W.heap.size := hlt (.cell b off) (MemPlace.mem_row.2 ⟨0, by omega, by simp⟩)
        have hlen : (ss.take len).length = len := by rw [List.length_take]; omega
        refine ⟨ss.take len, hlen, by omega, fun j hj => sized_strs hreach (j := 1) (t := 27) (e := 9) rfl rfl Try.underlying27 _ (List.getElem_mem hj), fun _ => ⟨b, off, rfl, hbW, fun j hj => ?_⟩⟩
        have hj' : j < ss.length := by rw [hlen] at hj; omega
        rw [← addr_plain, hcell j hj']
        simp [List.getD, List.getElem?_eq_getElem hj']
  obtain ⟨l, k1, k2, k3, k4⟩ := key
  refine (walk s0 a0 len cap l W r0 k2 k1 (fun j h => k3 j (by omega)) (fun h => by
    obtain ⟨b, off, e, hb, hc⟩ := k4 h
    exact ⟨b, off, e, hb, fun j hj => hc j (by omega)⟩)).mono fun e W' ⟨he, hB⟩ => ?_
  subst he
  exact ⟨_, rfl, post_of_below (pa := [] ++ p1) (pv := []) hW' (fun _ _ _ => trodAll_mk1 (shut_bool Try.underlying4 _)) (fun sp hsp => by
      have := trodAll_mk2 (Go.ChangeMaps.shut_string Try.underlying9 ws0) (WideElems.Trod_stays laidOut (by kernel_rfl) (of_decide_eq_true (by kernel_rfl)) h1 (fun x hx => hB.same (hlt x hx)) (fun x hx => hsp x (by simpa using hx)))
      exact this) (fun _ _ => rfl) (by simp) hB (ok_one (by kernel_rfl) rfl (okWide_bool_mk Try.underlying4 _))⟩

theorem reads (os : Os) {H : Type} (enc : TypeId × Value → H) : ∃ places, DataW.whole enc Try.prog ((laidWorld os).forCall (fun _ _ => 0) ⟨#[], #[.string ⟨#[]⟩, .slice none 0 0], []⟩).memory Try.f4.params.toList Rows.digestPiecesSpec.vars false (#[.string ⟨#[]⟩, .slice none 0 0] : Array Value).toList 8 = some ([.lit (.string []), .nil], [], places) :=
  ⟨[], by kernel_rfl⟩

set_option maxRecDepth 100000 in
theorem lifted (os : Os) (started : os.Started) (H : Type) (enc : TypeId × Value → H) (F : Stop.Interp) :
    ReturnsInHanded {} Try.checked os 4 .any ((OpenSpec.ofChange Rows.digestPiecesSpec).preRow enc Try.prog Try.f4 Rows.digestPiecesRow.domain false Rows.digestPiecesRow.laid) (((OpenSpec.ofChange Rows.digestPiecesSpec).at F).post enc Try.prog Try.f4 false true false false) := by
  obtain ⟨places, hx⟩ := reads os enc
  refine returnsInHanded_of_row (C := Try.checked) (s := OpenSpec.ofChange Rows.digestPiecesSpec) own started (by kernel_rfl) Try.func4
    (witness_row_at (enc := enc) (C := Try.checked) false (laidWorld os) #[.string ⟨#[]⟩, .slice none 0 0] rfl (by kernel_rfl) (by kernel_rfl) (by kernel_rfl)
      (OpenSpec.preRow_of_cond 8 hx (by kernel_rfl) (fun k hk => by cases hk) (by kernel_rfl) (laid_met os _))) ?_
  intro W base args ds gs before hval hW _ hcond hreach hL _ _
  obtain ⟨p, q, hA0, hV, hpq, hfz, hnd⟩ := id hW
  obtain ⟨rfl, _⟩ := trodVars_none hV
  rw [List.append_nil] at hreach
  exact contract H enc W base args ds [] before hval hW hreach

theorem said : Rows.DigestPiecesSaid :=
  OpenClaim.holds_of_cond 4 Try.f4 rfl rfl rfl rfl rfl rfl rfl ⟨rfl, rfl, rfl, rfl, rfl⟩ rfl rfl rfl rfl rfl (by kernel_rfl) Try.func4 (by kernel_rfl)
    (of_decide_eq_true (by kernel_rfl)) (by unfold Func.isWrapper; first | (rw [if_pos (by decide +kernel)]; kernel_rfl) | (rw [if_neg (by decide +kernel)]; exact ⟨rfl, rfl⟩))
    (fun os started H enc _ F => by rw [OpenClaim.pre_eq_preRow]; exact lifted os started H enc F)

end Go.Proofs.Ytojafgomckljiaa.pieces
