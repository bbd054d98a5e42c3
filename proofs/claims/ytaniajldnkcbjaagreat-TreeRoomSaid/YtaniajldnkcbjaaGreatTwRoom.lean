/-
  Where there is room for just so many blocks, bytes are stored, if their shape is no more; else they are refused, and what was stored ahead is still loaded: for every two texts, of which the first 17,000 bytes are taken, and every number of blocks that are left, of which the low seven bits count.
  Conditions: none besides the row's own.
-/
import Derived.Test.YtaniajldnkcbjaaGreatTreQ
namespace Go.Proofs.YtaniajldnkcbjaaGreat.troom
open Go.ChangeShapes Go.WideShapes Go.ChangeAt Go.RowKit Go.Shelf Go Go.Maps SM PL AL TR

/-- how many are left, as the pool says -/
def leftOf (p : Nat) (w : World) : Nat := match w.cell? ⟨p, 2, none⟩ with | some v => (intOf v).toNat | none => 0
theorem leftOf_is {B p n f k : Nat} {F : Nat → Prop} {u : List UInt8} {w : World} (h : PoolAt B F p u n f k w) : leftOf p w = (ord u n f).length - k := by
  obtain ⟨sb, bp, v, h1, rfl⟩ := h
  unfold leftOf
  rw [PoolO.c2 h1.obj]
  simp [intOf]
section
variable {w0 w : World} {l b g m c pl k : Nat} {M : Mem} {W P : Nat → Prop} {x : VS} {lv : List (List Nat)} {bt : List UInt8}
/-- one is taken and not written -/
theorem take_more (h : TB w0 l b g m c pl [] 300 1 k M W x P w) (hk : k < 299) :
    Calls Tryz.prog 24 #[.pointer (some ⟨pl, 0, none⟩)] w fun e w' => ∃ (r : Nat) (y : Nat) (P' : Nat → Prop), e = .returned (.tuple #[.int .i64 r, .int .i64 0]) ∧ TB w0 l b g m c pl [] 300 1 (k + 1) M (fun j => W j ∨ j = y) x P' w' ∧ KK P w w' ∧ (∀ j, P' j → P j ∨ w.heap.size ≤ j) ∧ (∀ lv bt, TT [] 300 1 k M W lv bt → TT [] 300 1 (k + 1) M (fun j => W j ∨ j = y) lv bt) := by
  have hk' : k < (ord [] 300 1).length := by rw [ord300]; exact hk
  have hT : (ord [] 300 1).take (k + 1) = (ord [] 300 1).take k ++ [(ord [] 300 1)[k]] := List.take_succ_eq_append_getElem hk'
  have hD : (ord [] 300 1)[k] ∈ (ord [] 300 1).drop k := by rw [List.drop_eq_getElem_cons hk']; exact List.mem_cons_self
  obtain ⟨y, hy⟩ : ∃ y, (ord [] 300 1)[k] = y := ⟨_, rfl⟩
  have C := h.take hk'
  rw [hy] at C hT hD
  refine C.mono ?_
  rintro e w' ⟨rfl, hv, ⟨P', hp, hP⟩, hkk⟩
  refine ⟨y, y, P', rfl, ⟨hv, h.calm.weaken (fun j hj => ?_), hp, by have := h.made; omega, fun j hj => ?_⟩, hkk, hP, fun lv bt ht => ?_⟩
  · rw [hT, List.mem_append] at hj
    rcases hj.1 with h1 | h1
    · exact ⟨h1, fun e => hj.2 (.inl e)⟩
    · exact absurd (.inr (by simpa using h1)) hj.2
  · rw [hT, List.mem_append]
    rcases hj with h1 | h1
    · exact .inl (h.skip j h1)
    · exact .inr (by simpa using h1)
  · refine ⟨ht.tree, ht.len, fun z hz => ?_, ht.nodup, fun z hz e => ht.far z hz ?_, fun j hj => ?_⟩
    · obtain ⟨h1, h2, h3, h4⟩ := ht.rng z hz
      refine ⟨h1, h2, by rw [hT, List.mem_append]; exact .inl h3, fun e => ?_⟩
      rcases e with e | e
      · exact h4 e
      · subst e
        exact ord_cut _ _ _ _ h3 hD
    · rw [List.drop_eq_getElem_cons hk']
      exact List.mem_cons_of_mem _ e
    · rw [hT, List.mem_append]
      rcases hj with h1 | h1
      · exact .inl (ht.skip j h1)
      · exact .inr (by simpa using h1)
theorem left_more (h : TB w0 l b g m c pl [] 300 1 k M W x P w) :
    Calls Tryz.prog 23 #[.pointer (some ⟨pl, 0, none⟩)] w fun e w' => e = .returned (.int .i64 (299 - k : Nat)) ∧ w = w' := by
  have C := h.left
  rwa [ord300] at C
theorem load_more (h : TB w0 l b g m c pl [] 300 1 k M W x P w) {T : ByteArray} (ht : TT [] 300 1 k M W lv T.data.toList) {r : Nat} (hr : rootOf lv = r) :
    Calls Tryz.prog 15 #[srcV l, .agg #[.int .i64 (r : Nat), .int .i64 (T.size : Nat)]] w fun e w' => ∃ x', e = .returned (.tuple #[.string T, .int .i64 0]) ∧ TB w0 l b g m c pl [] 300 1 k M W x' P w' ∧ VKeep w w' := by
  subst hr
  have C := h.load ht
  rw [len_of, bsL_data] at C
  refine (C : Calls Tryz.prog 15 #[srcV l, .agg #[.int .i64 (rootOf lv : Nat), .int .i64 (T.size : Nat)]] w _).mono ?_
  rintro e w' ⟨rfl, x', h1, h2⟩
  exact ⟨x', rfl, h1, h2⟩
/-- bytes are stored over a tree: there is room, or they are refused, as there are more blocks than room -/
theorem store_more (h : TB w0 l b g m c pl [] 300 1 k M W x P w) (ht : TT [] 300 1 k M W lv bt) (T : ByteArray) (hT : T.size ≤ 16384) {r s : Nat} (hr : rootOf lv = r) (hs : bt.length = s) :
    Calls Tryz.prog 22 #[srcV l, .agg #[.int .i64 (r : Nat), .int .i64 (s : Nat)], .string T, .pointer (some ⟨pl, 0, none⟩)] w fun e w' => ∃ (t : Nat) (M' : Mem) (x' : VS) (P' : Nat → Prop) (q z E : Nat), e = .returned (.tuple #[.agg #[.int .i64 (q : Nat), .int .i64 (z : Nat)], .int .i64 (E : Nat)]) ∧ (E = 0 ∨ (E = 112 ∧ 299 - k < (rowsL T.size).sum)) ∧ TB w0 l b g m c pl [] 300 1 (k + t) M' W x' P' w' ∧ TT [] 300 1 (k + t) M' W lv bt ∧ KK P w w' := by
  subst hr hs
  obtain ⟨R, hR⟩ : ∃ R, storeLv (decide ((rowsL T.size).length = lv.length)) (rowsL T.size) true lv bt T.data.toList M ((ord [] 300 1).drop k) = R := ⟨_, rfl⟩
  have C := h.store ht T hT hR
  refine (C : Calls Tryz.prog 22 #[srcV l, .agg #[.int .i64 (rootOf lv : Nat), .int .i64 (bt.length : Nat)], .string T, .pointer (some ⟨pl, 0, none⟩)] w _).mono ?_
  rintro e w' ⟨t, x', P', o, h1, h2, h3, h4⟩
  rcases h4 with ⟨h5, h4⟩ | ⟨h5, h4⟩
  · exact ⟨t, R.mem, x', P', _, _, 0, h4, .inl rfl, h1, ht.keep o, h2⟩
  · refine ⟨t, R.mem, x', P', 0, 0, 112, h4, .inr ⟨rfl, ?_⟩, h1, ht.keep o, h2⟩
    obtain ⟨g1, g2⟩ := o.full h5
    rw [List.length_drop, ord300] at g1
    rw [len_of] at g2
    omega
end
theorem boxS {W : World} {o : Nat} {a b : Value} {t : TypeId} {f : Nat × Nat} (h : W.heap[o]? = some (.cells #[a, b] t f)) : W.cell? ⟨o, 0, none⟩ = some a ∧ W.cell? ⟨o, 1, none⟩ = some b := by
  constructor <;> simp [World.cell?, h]
set_option maxRecDepth 100000 in
set_option maxHeartbeats 16000000 in
theorem walk (s1 s2 : ByteArray) (n2 : Int) (w : World) (hs1 : s1.size ≤ 140737488351232) (hs2 : s2.size ≤ 140737488351232) (_r2 : -9223372036854775808 ≤ n2 ∧ n2 ≤ 9223372036854775807) :
    Calls Tryz.prog 6 #[.string s1, .string s2, .int .i64 n2] w fun r w' => r = .returned (.bool true) ∧ Below w.heap.size w w' := by
  have CB1 := fun w => bytesT_any s1 (by omega) w
  have CB2 := fun w => bytesT_any s2 (by omega) w
  obtain ⟨K, hK1, hK2⟩ := and_to 127 (by omega) n2
  have hK1' : bits .and .i64 n2 127 = (K : Int) := hK1
  clear hK1
  obtain ⟨A, hA⟩ : ∃ A, cutT s1 = A := ⟨_, rfl⟩
  obtain ⟨Z, hZ⟩ : ∃ Z, cutT s2 = Z := ⟨_, rfl⟩
  rw [hA] at CB1
  rw [hZ] at CB2
  have CL := fun w => laid_tree 300 (by omega) (by omega) w
  have CN := fun w => pool_new 300 (by omega) (by omega) w
  have CL' : ∀ w, Calls Tryz.prog 12 #[.int .i64 300] w _ := CL
  have CN' : ∀ w, Calls Tryz.prog 21 #[.string ⟨#[]⟩, .int .i64 300, .int .i64 1] w _ := CN
  clear CL CN hA hZ
  go_enter Tryz.func6, Tryz.ntmps6
  go_wp2_with fail
  refine (CB1 _).mono ?_
  rintro e w' ⟨rfl, rfl⟩
  go_wp2_with fail
  refine (CB2 _).mono ?_
  rintro e w' ⟨rfl, rfl⟩
  go_wp2_with fail
  refine (CL' _).mono ?_
  rintro e w1 ⟨l, b, g, m, c, r, q, d, rfl, hl⟩
  have HL := Lib.hid hl
  clear hl CL' CB1 CB2
  go_wp2_with fail
  refine (CN' _).mono ?_
  rintro e w2 ⟨pl, rfl, ⟨F, hp⟩, hB2⟩
  have H2 := Lib.hid (TB.start HL.out (by omega) (by omega) hB2 hp (fun _ => []))
  clear hp hB2 CN'
  have CF := fun w => fixed11_any w
  by_cases hA16 : A.size ≤ 16384
  · have CS := store_first H2.out A hA16
    unfold srcV at CS
    have hAA : (A.toList == A.toList) = true := by simp
    go_wp2_with fail
    refine CS.mono ?_
    rintro e w3 ⟨t1, M3, lv1, x3, P3, rfl, h3, ht3, hk3, hP3, ht72⟩
    have HT3 := Lib.hid ht3
    obtain ⟨r1, hr1⟩ : ∃ r1, rootOf lv1 = r1 := ⟨_, rfl⟩
    rw [hr1]
    obtain ⟨w4, hw4⟩ : ∃ w4, w3.alloc (.cells #[.int .i64 (r1 : Nat), .int .i64 (A.size : Nat)] 29) = w4 := ⟨_, rfl⟩
    have hB4 : Below w3.heap.size w3 w4 := by rw [← hw4]; exact (Below.refl _ w3).alloc (Nat.le_refl _) _
    have hob4 : w4.heap[w3.heap.size]? = some (.cells #[.int .i64 (r1 : Nat), .int .i64 (A.size : Nat)] 29 (0, 0)) := by rw [← hw4]; exact heap_alloc_new _ _
    obtain ⟨ox, hox⟩ : ∃ ox, w3.heap.size = ox := ⟨_, rfl⟩
    rw [hox] at hob4
    have H4 := Lib.hid (h3.later hB4)
    have HX4 := Lib.hid hob4
    have HR1 := Lib.hid hr1
    clear hB4 hob4 h3 ht3 hk3 hP3 CS hr1
    by_cases hZ16 : Z.size ≤ 16384
    · have hZi : (Z.size : Int) ≤ 16384 := by omega
      have CSh := fun w => shape_nat Z.size hZ16 w
      obtain ⟨N, hN⟩ : ∃ N, (rowsL Z.size).sum = N := ⟨_, rfl⟩
      have HN := Lib.hid hN
      rw [hN] at CSh
      clear hN
      go_wp2_with fail
      refine (CSh _).mono ?_
      rintro e w' ⟨rfl, rfl⟩
      clear CSh
      go_wp2
      go_loopw [] (fun wr => ∃ (k : Nat) (W P : Nat → Prop) (x : VS), k ≤ 299 ∧ K ≤ 299 - k ∧ Hid (TB w l b g m c pl [] 300 1 k M3 W x P wr) ∧ Hid (TT [] 300 1 k M3 W lv1 A.data.toList) ∧ Hid (wr.heap[ox]? = some (.cells #[.int .i64 (r1 : Nat), .int .i64 (A.size : Nat)] 29 (0, 0)))) (fun wr => leftOf pl wr)
      case atStart => exact ⟨t1, _, _, _, by omega, by omega, H4, HT3, HX4⟩
      case round =>
        obtain ⟨k, W, P, x, hk, hkK, HB, HT, HX⟩ := hrel
        have CLf := left_more HB.out
        obtain ⟨lf, hlf⟩ : ∃ lf, 299 - k = lf := ⟨_, rfl⟩
        rw [hlf] at CLf
        have HLm := Lib.hid (leftOf_is HB.out.pool)
        have HLf := Lib.hid hlf
        by_cases hlt : K < lf
        · have hlI : (K : Int) < (lf : Int) := by omega
          have CT := take_more HB.out (by omega)
          have hk299 : k < 299 := by omega
          clear hlt
          go_wp2_with fail
          refine CLf.mono ?_
          rintro e w' ⟨rfl, rfl⟩
          go_wp2_with fail
          refine CT.mono ?_
          rintro e w5 ⟨y, z, P5, rfl, h5, hk5, hP5, ht5⟩
          have HX5 := Lib.hid (hk5.keep HX.out (by unfold VK; decide) (HB.out.not_pool HX.out (by decide)))
          have HT5 := Lib.hid (ht5 _ _ HT.out)
          have HLm5 := Lib.hid (leftOf_is h5.pool)
          have H5 := Lib.hid h5
          clear h5 hk5 hP5 ht5 CLf CT
          go_wp2
          go_roundw
          case rel => exact ⟨k + 1, _, _, _, by omega, by have := HLf.out; omega, H5, HT5, HX5⟩
          case measure => rw [HLm.out, HLm5.out, ord300]; omega
        · have hlI : (lf : Int) ≤ (K : Int) := by omega
          have hKl : K = lf := by omega
          have CS2 := store_more HB.out HT.out Z hZ16 HR1.out (len_of A)
          unfold srcV at CS2
          obtain ⟨d0, d1⟩ := boxS HX.out
          have HZn := Lib.hid HN.out
          go_wp2_with fail
          refine CLf.mono ?_
          rintro e w' ⟨rfl, rfl⟩
          go_wp2_with fail
          refine CS2.mono ?_
          rintro e w5 ⟨t2, M5, x5, P5, q5, z5, E5, rfl, hE5, h5, ht5, hk5⟩
          have HX5 := Lib.hid (hk5.keep HX.out (by unfold VK; decide) (HB.out.not_pool HX.out (by decide)))
          have HT5 := Lib.hid ht5
          obtain ⟨w6, hw6⟩ : ∃ w6, w5.alloc (.cells #[.int .i64 (q5 : Nat), .int .i64 (z5 : Nat)] 29) = w6 := ⟨_, rfl⟩
          have hB6 : Below w5.heap.size w5 w6 := by rw [← hw6]; exact (Below.refl _ w5).alloc (Nat.le_refl _) _
          have H6 := Lib.hid (h5.later hB6)
          obtain ⟨e0, e1⟩ := boxS (keeps_of hB6 HX5.out)
          have CR := load_more H6.out HT5.out HR1.out
          unfold srcV at CR
          clear h5 ht5 hk5 CS2 CLf d0 d1 hB6
          have hEE : (E5 = 0 ∨ (E5 = 112 ∧ (K : Int) < (N : Int))) := by
            rcases hE5 with h | ⟨h, h1⟩
            · exact .inl h
            · rw [HN.out] at h1
              exact .inr ⟨h, by have := HLf.out; omega⟩
          clear hE5
          rcases hEE with rfl | ⟨rfl, hKN⟩
          all_goals (
            go_wp2_with fail
            refine CR.mono ?_
            rintro e w7 ⟨x7, rfl, h7, hk7⟩
            have HB7 := Lib.hid h7.vw.below
            clear h7 hk7 CR
            go_wp2_with fail
            all_goals (
              refine (CF _).mono ?_
              rintro e w8 ⟨rfl, hB8⟩
              have HB8 := Lib.hid (HB7.out.trans (hB8.mono HB7.out.size))
              clear hB8
              go_wp2
              go_ret
              first
              | exact ⟨rfl, HB8.out⟩
              | exact ⟨by show Ending.returned (Value.bool (decide (lf < N))) = _; rw [decide_eq_true (show lf < N by omega)], HB8.out⟩))
    · have hlong : (16384 : Int) < (Z.size : Int) := by omega
      have HB4' := Lib.hid H4.out.vw.below
      go_wp2_with fail
      refine (CF _).mono ?_
      rintro e w5 ⟨rfl, hB5⟩
      have HB5 := Lib.hid (HB4'.out.trans (hB5.mono HB4'.out.size))
      clear hB5
      go_wp2
      go_ret
      exact ⟨rfl, HB5.out⟩
  · have hlong : (16384 : Int) < (A.size : Int) := by omega
    have CS := fun w => store_long (pl := pl) (l := l) 0 0 A (by omega) w
    unfold srcV blobV at CS
    go_wp2_with fail
    refine (CS _).mono ?_
    rintro e w3 ⟨rfl, hB3⟩
    have HB3 := Lib.hid (H2.out.vw.below.trans (hB3.mono H2.out.vw.below.size))
    clear hB3 CS CF
    have CF' := fun W (hW : Below w3.heap.size w3 W) => fixed11_any W
    go_wp2_with fail
    refine (CF' _ ((Below.refl _ _).alloc (Nat.le_refl _) _)).mono ?_
    rintro e w4 ⟨rfl, hB4⟩
    have HB4 := Lib.hid ((HB3.out.alloc HB3.out.size _).trans (hB4.mono (Nat.le_trans HB3.out.size (by simp))))
    clear hB4 CF'
    go_wp2
    go_ret
    exact ⟨rfl, HB4.out⟩
set_option maxRecDepth 100000 in
/-- WHAT THE WALK GIVES, for every argument that can be read. -/
theorem contract (H : Type) (enc : TypeId × Value → H) (W : World) (base : Nat) (args : Array Value) (ds gs : List (DataW H)) (before : List MemPlace)
    (hval : ∀ (j : Nat) t v, Tryz.f6.params[j]? = some t → args[j]? = some v → Value.okWide Tryz.prog W .any base t v)
    (hW : DataW.Whole enc Tryz.prog Tryz.f6.params.toList Rows.treeRoomSpec.vars false W args.toList ds gs before)
    (hreach : (DataW.weightsEach Tryz.prog (Tryz.f6.params.toList) ds).all (· ≤ reachBytes) = true) :
    Calls Tryz.prog 6 args W fun e W' => ∃ v, e = .returned v ∧ Rows.treeRoomSpec.post enc Tryz.prog Tryz.f6 false true false false W args v W' := by
  have hW' := hW
  obtain ⟨p, q, hA0, hV, rfl, hfz, hnd⟩ := hW
  have hA : DataW.TrodAll enc Tryz.prog W 0 (fun _ => true) true Tryz.f6.params.toList args.toList ds p := hA0
  rw [Tryz.params6] at hA hval hreach
  obtain ⟨v0, v1, v2, d0, d1, d2, p0, p1, p2, rfl, rfl, rfl, h0, h1, h2⟩ := trodAll_three hA
  obtain ⟨rfl, rfl⟩ := trodVars_none hV
  obtain ⟨s0, rfl, rfl, rfl, ws0⟩ := Go.ChangeMaps.open_string Tryz.underlying9 (hval 0 9 v0 rfl rfl) h0
  have r0 := reach_size (sized_string hreach (j := 0) rfl rfl)
  obtain ⟨s1, rfl, rfl, rfl, ws1⟩ := Go.ChangeMaps.open_string Tryz.underlying9 (hval 1 9 v1 rfl rfl) h1
  have r1 := reach_size (sized_string hreach (j := 1) rfl rfl)
  obtain ⟨n2, rfl, rfl, rfl, wn2⟩ := open_int Tryz.underlying3 (hval 2 3 v2 rfl rfl) h2
  have r2 := int_range wn2
  clear hA0 hval
  simp only [List.append_nil] at hW'
  refine (walk s0 s1 n2 W r0 r1 r2).mono fun e W' ⟨he, hB⟩ => ?_
  subst he
  exact ⟨_, rfl, post_of_below (pa := [] ++ ([] ++ ([]))) (pv := []) hW' (fun _ _ _ => trodAll_mk1 (shut_bool Tryz.underlying4 _)) (fun sp hsp => trodAll_mk3 (Go.ChangeMaps.shut_string Tryz.underlying9 ws0) (Go.ChangeMaps.shut_string Tryz.underlying9 ws1) (shut_int Tryz.underlying3 wn2)) (fun _ _ => rfl) (by simp) hB (ok_one (by kernel_rfl) rfl (okWide_bool_mk Tryz.underlying4 _))⟩

theorem reads (os : Os) {H : Type} (enc : TypeId × Value → H) : ∃ places, DataW.whole enc Tryz.prog ((laidWorld os).forCall (fun _ _ => 0) ⟨#[], #[.string ⟨#[]⟩, .string ⟨#[]⟩, .int .i64 0], []⟩).memory Tryz.f6.params.toList Rows.treeRoomSpec.vars false (#[.string ⟨#[]⟩, .string ⟨#[]⟩, .int .i64 0] : Array Value).toList 8 = some ([.lit (.string []), .lit (.string []), .lit (.int .i64 0)], [], places) :=
  ⟨[], by kernel_rfl⟩

set_option maxRecDepth 100000 in
theorem lifted (os : Os) (started : os.Started) (H : Type) (enc : TypeId × Value → H) (F : Stop.Interp) :
    ReturnsInHanded {} Tryz.checked os 6 .any ((OpenSpec.ofChange Rows.treeRoomSpec).preRow enc Tryz.prog Tryz.f6 Rows.treeRoomRow.domain false Rows.treeRoomRow.laid) (((OpenSpec.ofChange Rows.treeRoomSpec).at F).post enc Tryz.prog Tryz.f6 false true false false) := by
  obtain ⟨places, hx⟩ := reads os enc
  refine returnsInHanded_of_row (C := Tryz.checked) (s := OpenSpec.ofChange Rows.treeRoomSpec) own started (by kernel_rfl) Tryz.func6
    (witness_row_at (enc := enc) (C := Tryz.checked) false (laidWorld os) #[.string ⟨#[]⟩, .string ⟨#[]⟩, .int .i64 0] rfl (by kernel_rfl) (by kernel_rfl) (by kernel_rfl)
      (OpenSpec.preRow_of_cond 8 hx (by kernel_rfl) (fun k hk => by cases hk) (by kernel_rfl) (laid_met os _))) ?_
  intro W base args ds gs before hval hW _ hcond hreach hL _ _
  obtain ⟨p, q, hA0, hV, hpq, hfz, hnd⟩ := id hW
  obtain ⟨rfl, _⟩ := trodVars_none hV
  rw [List.append_nil] at hreach
  exact contract H enc W base args ds [] before hval hW hreach

theorem said : Rows.TreeRoomSaid :=
  OpenClaim.holds_of_cond 6 Tryz.f6 rfl rfl rfl rfl rfl rfl rfl ⟨rfl, rfl, rfl, rfl, rfl⟩ rfl rfl rfl rfl rfl (by kernel_rfl) Tryz.func6 (by kernel_rfl)
    (of_decide_eq_true (by kernel_rfl)) (by unfold Func.isWrapper; first | (rw [if_pos (by decide +kernel)]; kernel_rfl) | (rw [if_neg (by decide +kernel)]; exact ⟨rfl, rfl⟩))
    (fun os started H enc _ F => by rw [OpenClaim.pre_eq_preRow]; exact lifted os started H enc F)



end Go.Proofs.YtaniajldnkcbjaaGreat.troom

