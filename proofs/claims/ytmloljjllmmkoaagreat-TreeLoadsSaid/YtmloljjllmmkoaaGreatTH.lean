/-
  TreH / TreI / TreJ.
-/
import Derived.Test.YtmloljjllmmkoaaGreatTE
namespace Go.Proofs.YtmloljjllmmkoaaGreat
open Go.ChangeShapes Go.WideShapes Go.ChangeAt Go.RowKit Go.Shelf Go Go.Maps SM PL AL TR

/-- blocks stay, but those of a volume, and those of G -/
def KK (G : Nat → Prop) (w w' : World) : Prop := ∃ F : Nat → Prop, Stir F w w' ∧ ∀ i C e f, F i → w.heap[i]? = some (.cells C e f) → VK e ∨ G i
section
variable {G G' : Nat → Prop} {w w1 w' : World}
theorem KK.of_vkeep (h : VKeep w w') : KK G w w' := by
  obtain ⟨F, s, hF⟩ := h
  exact ⟨F, s, fun i C e f hf hC => .inl (hF i C e f hf hC)⟩
theorem KK.of_below (h : Below w.heap.size w w') : KK G w w' := ⟨fun _ => False, Stir.of_below h, fun _ _ _ _ h => h.elim⟩
theorem KK.of_stir (h : Stir G w w') : KK G w w' := ⟨G, h, fun _ _ _ _ hf _ => .inr hf⟩
theorem KK.trans (h : KK G w w1) (k : KK G' w1 w') (hG : ∀ i, G' i → G i ∨ w.heap.size ≤ i) : KK G w w' := by
  obtain ⟨F, s, hF⟩ := h
  obtain ⟨F', t, hF'⟩ := k
  refine ⟨fun i => F i ∨ F' i, (s.weaken (fun _ h => .inl h)).trans t (fun i h => .inl (.inr h)), fun i C e f hf hC => ?_⟩
  by_cases h1 : F i
  · exact hF i C e f h1 hC
  · rcases hF' i C e f (hf.resolve_left h1) ((s.block i (lt_of_heap hC) h1).trans hC) with h2 | h2
    · exact .inl h2
    · rcases hG i h2 with h3 | h3
      · exact .inr h3
      · have := lt_of_heap hC; omega
theorem KK.size (h : KK G w w') : w.heap.size ≤ w'.heap.size := by
  obtain ⟨F, s, hF⟩ := h
  exact s.size
theorem KK.keep (h : KK G w w') {i : Nat} {C : Array Value} {e : TypeId} {f : Nat × Nat} (hC : w.heap[i]? = some (.cells C e f)) (he : ¬ VK e) (hG : ¬ G i) : w'.heap[i]? = some (.cells C e f) := by
  obtain ⟨F, s, hF⟩ := h
  refine s.keep hC (fun hf => ?_)
  rcases hF i C e f hf hC with h1 | h1
  · exact he h1
  · exact hG h1
theorem KK.row (h : KK G w w') {base size n : Nat} {e : TypeId} {v : Value} {xs : List Value} (hr : w.ownsRow base e size v n xs) (he : ¬ VK e) (hG : ∀ j, v.ownBlock = some j → ¬ G j) : w'.ownsRow base e size v n xs :=
  owns_keep hr (fun j hj => by
    obtain ⟨cur, hc⟩ := owns_cells hr hj
    rw [hc]
    exact h.keep hc he (hG j hj))
end
section
variable {B p n f k : Nat} {u : List UInt8} {w w' : World} {F : Nat → Prop}
/-- the kinds of a pool's blocks -/
theorem PoolAt.kinds (h : PoolAt B F p u n f k w) {j : Nat} (hj : F j) : ∃ C e fz, w.heap[j]? = some (.cells C e fz) ∧ (e = 140 ∨ e = 9 ∨ e = 3) := by
  obtain ⟨sb, bp, v, h1, rfl⟩ := h
  rcases hj with rfl | rfl | rfl | e
  · exact ⟨_, _, _, h1.obj, .inl rfl⟩
  · exact ⟨_, _, _, h1.set, .inr (.inl rfl)⟩
  · exact ⟨_, _, _, h1.place, .inr (.inr rfl)⟩
  · obtain ⟨cur, hc⟩ := owns_cells h1.row e
    exact ⟨_, _, _, hc, .inr (.inr rfl)⟩
theorem PoolAt.not_vk (h : PoolAt B F p u n f k w) {j : Nat} (hj : F j) : ∃ C e fz, w.heap[j]? = some (.cells C e fz) ∧ ¬ VK e := by
  obtain ⟨C, e, fz, h1, h2⟩ := h.kinds hj
  refine ⟨C, e, fz, h1, ?_⟩
  rcases h2 with rfl | rfl | rfl <;> unfold VK <;> decide
theorem PoolAt.vkeep (h : PoolAt B F p u n f k w) (s : VKeep w w') : PoolAt B F p u n f k w' := by
  obtain ⟨G, hs, hG⟩ := s
  refine h.stay hs (fun j hj hg => ?_)
  obtain ⟨C, e, fz, h1, h2⟩ := h.not_vk hj
  exact h2 (hG j C e fz hg h1)
theorem PoolAt.lower {B' : Nat} (h : PoolAt B F p u n f k w) (hB : B' ≤ B) : PoolAt B' F p u n f k w := by
  obtain ⟨sb, bp, v, h1, e⟩ := h
  exact ⟨sb, bp, v, ⟨h1.obj, h1.set, h1.place, ⟨h1.row.1, by
    rcases h1.row.2 with r | ⟨g, cap, cur, r1, r2, r3⟩
    · exact .inl r
    · exact .inr ⟨g, cap, cur, r1, Nat.le_trans hB r2, r3⟩⟩, h1.apart, ⟨Nat.le_trans hB h1.low.1, Nat.le_trans hB h1.low.2.1, Nat.le_trans hB h1.low.2.2⟩, h1.le, h1.lo, h1.hi, h1.f1, h1.f2⟩, e⟩
theorem PoolAt.k_le (h : PoolAt B F p u n f k w) : k ≤ (ord u n f).length ∧ 8 ≤ n ∧ n ≤ 4096 := by
  obtain ⟨sb, bp, v, h1, e⟩ := h
  exact ⟨h1.le, h1.lo, h1.hi⟩
end
/-- a calm volume with its pool: k blocks were taken; what each block says; W: what was written -/
structure TB (w0 : World) (l b g m c pl : Nat) (u : List UInt8) (n f k : Nat) (M : Mem) (W : Nat → Prop) (x : VS) (P : Nat → Prop) (w : World) : Prop where
  vw : VW w0 l b g m c x w
  calm : CalmV x n M (fun j => j ∈ (ord u n f).take k ∧ ¬ W j)
  pool : PoolAt w0.heap.size P pl u n f k w
  made : x.disk.made ≤ 1000 + 5 * k
  skip : ∀ j, W j → j ∈ (ord u n f).take k
section
variable {w0 w w' : World} {l b g m c pl n f k : Nat} {u : List UInt8} {M : Mem} {W P : Nat → Prop} {x : VS}
theorem TB.later (h : TB w0 l b g m c pl u n f k M W x P w) (hB : Below w.heap.size w w') : TB w0 l b g m c pl u n f k M W x P w' := ⟨h.vw.later hB, h.calm, h.pool.later hB, h.made, h.skip⟩
/-- what is neither the volume's nor the pool's is turned -/
theorem TB.own (h : TB w0 l b g m c pl u n f k M W x P w) {G : Nat → Prop} (s : Stir G w w') (hG : ∀ i, G i → w0.heap.size ≤ i ∧ (∃ C e f, w.heap[i]? = some (.cells C e f) ∧ ¬ VK e) ∧ ¬ P i) : TB w0 l b g m c pl u n f k M W x P w' :=
  ⟨h.vw.own s (fun i hi => .inr ⟨(hG i hi).1, (hG i hi).2.1⟩), h.calm, h.pool.stay s (fun j hj hg => (hG j hg).2.2 hj), h.made, h.skip⟩
theorem TB.take (h : TB w0 l b g m c pl u n f k M W x P w) (hk : k < (ord u n f).length) :
    Calls Tryz.prog 127 #[.pointer (some ⟨pl, 0, none⟩)] w fun e w' => e = .returned (.tuple #[.int .i64 ((ord u n f)[k] : Nat), .int .i64 0]) ∧ VW w0 l b g m c x w' ∧ (∃ P', PoolAt w0.heap.size P' pl u n f (k + 1) w' ∧ ∀ j, P' j → P j ∨ w.heap.size ≤ j) ∧ KK P w w' := by
  refine (take_yes h.pool hk).mono ?_
  rintro e w' ⟨he, P', hp, hs, hP⟩
  refine ⟨he, h.vw.own hs (fun i hi => .inr ⟨(h.pool.lt hi).2, h.pool.not_vk hi⟩), ⟨P', hp, hP⟩, KK.of_stir hs⟩
end
def StObj (l pl : Nat) (ov : Value) : Obj := .cells #[srcV l, .pointer (some ⟨pl, 0, none⟩), ov] 147 (0, 0)
section
variable {s l pl : Nat} {ov : Value} {w : World}
theorem StObj.c0 (h : w.heap[s]? = some (StObj l pl ov)) : w.cell? ⟨s, 0, none⟩ = some (srcV l) := by simp [World.cell?, h, StObj]
theorem StObj.c1 (h : w.heap[s]? = some (StObj l pl ov)) : w.cell? ⟨s, 1, none⟩ = some (.pointer (some ⟨pl, 0, none⟩)) := by simp [World.cell?, h, StObj]
theorem StObj.c2 (h : w.heap[s]? = some (StObj l pl ov)) : w.cell? ⟨s, 2, none⟩ = some ov := by simp [World.cell?, h, StObj]
theorem StObj.fr (h : w.heap[s]? = some (StObj l pl ov)) (i : Nat) : w.frozen? ⟨s, i, none⟩ = false := by simp [World.frozen?, h, StObj]
theorem StObj.set2 (h : w.heap[s]? = some (StObj l pl ov)) (v' : Value) : (w.setCell ⟨s, 2, none⟩ v').heap[s]? = some (StObj l pl v') := by rw [heap_set h]; rfl
end
section
variable {w0 w : World} {l b g m c pl n f k s : Nat} {u : List UInt8} {M : Mem} {W P : Nat → Prop} {x : VS} {ov : Value}
set_option maxRecDepth 100000 in
theorem keep_same (_hs : w.heap[s]? = some (StObj l pl ov)) (v : Int) (p : ByteArray) :
    Calls Tryz.prog 106 #[.pointer (some ⟨s, 0, none⟩), .string p, .agg #[.int .i64 v, .string p]] w fun e w' => e = .returned (.tuple #[.int .i64 v, .int .i64 0]) ∧ Below w.heap.size w w' := by
  have hpp : (p.toList == p.toList) = true := by simp
  go_enter Tryz.func106, Tryz.ntmps106
  go_wp2
  go_ret2
  exact ⟨rfl, (Below.refl _ w).alloc (Nat.le_refl _) _⟩
set_option maxRecDepth 100000 in
theorem keep_full (hs : w.heap[s]? = some (StObj l pl ov)) (h : TB w0 l b g m c pl u n f k M W x P w) (hk : k = (ord u n f).length) (v : Int) (q p : ByteArray) (hne : q ≠ p) :
    Calls Tryz.prog 106 #[.pointer (some ⟨s, 0, none⟩), .string p, .agg #[.int .i64 v, .string q]] w fun e w' => e = .returned (.tuple #[.int .i64 0, .int .i64 112]) ∧ Below w.heap.size w w' := by
  have hpp : (q.toList == p.toList) = false := (texts_ne hne).1
  obtain ⟨w1, hw1⟩ : ∃ w1, w.alloc (.cells #[.int .i64 v, .string q] 128) = w1 := ⟨_, rfl⟩
  have hob : w1.heap[w.heap.size]? = some (.cells #[.int .i64 v, .string q] 128 (0, 0)) := by rw [← hw1]; exact heap_alloc_new _ _
  have hB1 : Below w.heap.size w w1 := by rw [← hw1]; exact (Below.refl _ w).alloc (Nat.le_refl _) _
  have d0 : w1.cell? ⟨w.heap.size, 0, none⟩ = some (.int .i64 v) := by simp [World.cell?, hob]
  have d1 : w1.cell? ⟨w.heap.size, 1, none⟩ = some (.string q) := by simp [World.cell?, hob]
  have hs1 := keeps_of hB1 hs
  have c0 := StObj.c0 hs1
  have c1 := StObj.c1 hs1
  have C := take_no (h.later hB1).pool hk
  have HB1 := Lib.hid hB1
  clear hs hs1 h hk hne hob hB1
  go_enter Tryz.func106, Tryz.ntmps106
  go_wp2_with fail
  refine C.mono ?_
  rintro e w2 ⟨rfl, rfl⟩
  go_wp2
  go_ret2
  exact ⟨rfl, HB1.out⟩
set_option maxRecDepth 100000 in
set_option maxHeartbeats 2000000 in
theorem keep_take (hs : w.heap[s]? = some (StObj l pl ov)) (hsP : ¬ P s) (h : TB w0 l b g m c pl u n f k M W x P w) (hk : k < (ord u n f).length) (v : Int) (q p : ByteArray) (hne : q ≠ p) (hp : p.size ≤ 240) :
    Calls Tryz.prog 106 #[.pointer (some ⟨s, 0, none⟩), .string p, .agg #[.int .i64 v, .string q]] w fun e w' => e = .returned (.tuple #[.int .i64 ((ord u n f)[k] : Nat), .int .i64 0]) ∧ ∃ x' P', TB w0 l b g m c pl u n f (k + 1) (memput M (ord u n f)[k] p.data.toList) W x' P' w' ∧ KK P w w' ∧ ∀ j, P' j → P j ∨ w.heap.size ≤ j := by
  have hpp : (q.toList == p.toList) = false := (texts_ne hne).1
  have hm := method_write ⟨l, 0, none⟩
  obtain ⟨w1, hw1⟩ : ∃ w1, w.alloc (.cells #[.int .i64 v, .string q] 128) = w1 := ⟨_, rfl⟩
  have hob : w1.heap[w.heap.size]? = some (.cells #[.int .i64 v, .string q] 128 (0, 0)) := by rw [← hw1]; exact heap_alloc_new _ _
  have hB1 : Below w.heap.size w w1 := by rw [← hw1]; exact (Below.refl _ w).alloc (Nat.le_refl _) _
  have d0 : w1.cell? ⟨w.heap.size, 0, none⟩ = some (.int .i64 v) := by simp [World.cell?, hob]
  have d1 : w1.cell? ⟨w.heap.size, 1, none⟩ = some (.string q) := by simp [World.cell?, hob]
  have hs1 := keeps_of hB1 hs
  have c0 := StObj.c0 hs1
  have c1 := StObj.c1 hs1
  have C := (h.later hB1).take hk
  have HB1 := Lib.hid hB1
  have HS1 := Lib.hid hs1
  have HSP := Lib.hid hsP
  obtain ⟨e1, e2, -⟩ := ord_in hk
  have hkn := h.pool.k_le
  obtain ⟨nb, hnb⟩ : ∃ nb, (ord u n f)[k] = nb := ⟨_, rfl⟩
  rw [hnb] at C e1 e2 ⊢
  have HT := Lib.hid (show (ord u n f).take (k + 1) = (ord u n f).take k ++ [nb] by rw [List.take_succ_eq_append_getElem hk, hnb])
  have HM := Lib.hid h.made
  have HSk := Lib.hid h.skip
  obtain ⟨g1, g2⟩ := h.calm.write e1 e2 hp
  have HC := Lib.hid g2
  have HMd := Lib.hid (made_vwrite x (nb : Int) p)
  have CW := fun W (hw : VW w0 l b g m c x W) => hw.write (by have := h.made; have := length_ord_lt u f (show 1 ≤ n by omega); omega) (nb : Int) ⟨by omega, by omega⟩ p (by omega)
  rw [g1] at CW
  generalize (x.write (nb : Int) p).2 = x' at *
  clear hs hs1 h hk hne hob hB1 g1 g2 hnb hkn
  unfold srcV at c0
  go_enter Tryz.func106, Tryz.ntmps106
  go_wp2_with fail
  refine C.mono ?_
  rintro e w2 ⟨rfl, hv2, ⟨P', hp2, hP2⟩, hk2⟩
  have HV2 := Lib.hid hv2
  have HP2 := Lib.hid hp2
  have HPP := Lib.hid hP2
  have hs2 := hk2.keep HS1.out (by unfold VK; decide) HSP.out
  have f0 := StObj.c0 hs2
  have HK2 := Lib.hid ((KK.of_below HB1.out : KK P _ _).trans hk2 (fun i hi => .inl hi))
  unfold srcV at f0
  clear hv2 hp2 hP2 hs2 hk2 C c0 c1
  go_wp2_with fail
  refine (CW _ HV2.out).mono ?_
  rintro e w3 ⟨rfl, hv3, hk3⟩
  have HV3 := Lib.hid hv3
  have HP3 := Lib.hid (HP2.out.vkeep hk3)
  have HK3 := Lib.hid (HK2.out.trans (KK.of_vkeep hk3 : KK P _ _) (fun i hi => .inl hi))
  clear hv3 hk3 CW
  go_wp2
  go_ret2
  refine ⟨rfl, x', P', ⟨HV3.out, ?_, HP3.out, by have := HM.out; have := HMd.out; omega, fun j hj => by rw [HT.out]; exact List.mem_append.2 (.inl (HSk.out j hj))⟩, HK3.out, fun j hj => ?_⟩
  · rw [HT.out]
    refine HC.out.weaken (fun j hj => ?_)
    obtain ⟨hj, hw⟩ := hj
    rcases List.mem_append.1 hj with hj | hj
    · exact .inr ⟨hj, hw⟩
    · exact .inl (by simpa using hj)
  · rcases HPP.out j hj with h1 | h1
    · exact .inl h1
    · exact .inr (Nat.le_trans HB1.out.size h1)
end
end Go.Proofs.YtmloljjllmmkoaaGreat

namespace Go.Proofs.YtmloljjllmmkoaaGreat
open Go.ChangeShapes Go.WideShapes Go.ChangeAt Go.RowKit Go.Shelf Go Go.Maps SM PL AL TR

/-- rows of an old tree, in memory -/
structure OldAt (ov : Value) (OL : List (List (Int × ByteArray))) (w : World) : Prop where
  len : ∃ a cap, ov = .slice a OL.length cap
  each : ∀ j (_ : j < OL.length), ∃ g r cap a2 cap2 C f, ov = .slice (some ⟨g, 0, none⟩) r cap ∧ w.heap[g]? = some (.cells C 126 f) ∧ w.cell? ⟨g, j, none⟩ = some (.slice a2 OL[j].length cap2) ∧
    ∀ i (_ : i < OL[j].length), ∃ q C' f', a2 = some ⟨q, 0, none⟩ ∧ w.heap[q]? = some (.cells C' 128 f') ∧ w.cell? ⟨q, i * 2, none⟩ = some (.int .i64 OL[j][i].1) ∧ w.cell? ⟨q, i * 2 + 1, none⟩ = some (.string OL[j][i].2)
section
variable {ov : Value} {OL : List (List (Int × ByteArray))} {w w' : World}
theorem OldAt.stay (h : OldAt ov OL w) (hk : ∀ (i : Nat) (C : Array Value) (e : TypeId) (f : Nat × Nat), w.heap[i]? = some (Obj.cells C e f) → (e = 128 ∨ e = 126) → w'.heap[i]? = w.heap[i]?) : OldAt ov OL w' :=
  ⟨h.len, fun j hj => by
    obtain ⟨g, r, cap, a2, cap2, C, f, e1, e2, e3, e4⟩ := h.each j hj
    have k1 := hk g C _ f e2 (.inr rfl)
    refine ⟨g, r, cap, a2, cap2, C, f, e1, k1.trans e2, (World.cell?_of_block (w := w) (a := ⟨g, j, none⟩) k1).trans e3, fun i hi => ?_⟩
    obtain ⟨q, C', f', d1, d2, d3, d4⟩ := e4 i hi
    have k2 := hk q C' _ f' d2 (.inl rfl)
    exact ⟨q, C', f', d1, k2.trans d2, (World.cell?_of_block (w := w) (a := ⟨q, i * 2, none⟩) k2).trans d3, (World.cell?_of_block (w := w) (a := ⟨q, i * 2 + 1, none⟩) k2).trans d4⟩⟩
theorem OldAt.below (h : OldAt ov OL w) (hB : Below w.heap.size w w') : OldAt ov OL w' := h.stay (fun i _ _ _ e _ => hB.block i (lt_of_heap e))
theorem OldAt.kk {B p n f k : Nat} {u : List UInt8} {P : Nat → Prop} (h : OldAt ov OL w) (hp : PoolAt B P p u n f k w) (hk : KK P w w') : OldAt ov OL w' :=
  h.stay (fun i C e fz hC he => (hk.keep hC (by rcases he with rfl | rfl <;> unfold VK <;> decide) (fun hP => by
    obtain ⟨C', e', f', h1, h2⟩ := hp.kinds hP
    have h3 := kind_eq hC h1
    subst h3
    rcases he with rfl | rfl <;> rcases h2 with h2 | h2 | h2 <;> exact absurd h2 (by decide))).trans hC.symm)
/-- of a loader: all its rows, or the first ones -/
theorem LdIs.old {B p r cap : Nat} {src : Value} {a : Option Addr} {us : List Value} {V : Vis} (h : LdIs B p src (.slice a r cap) us V w) (hr : us.length = r) {R : Nat} (hR : R ≤ r) : OldAt (.slice a R cap) ((List.range R).map fun j => levOf j V) w := by
  refine ⟨⟨a, cap, by simp⟩, fun j hj => ?_⟩
  have hjR : j < R := by simpa using hj
  have hrow := h.row
  rw [hr] at hrow
  obtain ⟨g, cap', hva, _, _, _, _, hcs⟩ := row_cells' hrow (fun e => by injection e with e1 e2 e3; omega)
  obtain ⟨rfl, rfl⟩ : a = some ⟨g, 0, none⟩ ∧ cap = cap' := by injection hva with e1 e2 e3; exact ⟨e1, e3⟩
  obtain ⟨C, hC⟩ := owns_cells hrow (k := g) rfl
  have hju : j < us.length := by omega
  have hrj := h.rows.each j hju
  obtain ⟨a2, cap2, hu⟩ := row_shape hrj
  have hcell := hcs j us[j] (List.getElem?_eq_getElem hju)
  have hget : ((List.range R).map fun j => levOf j V)[j] = levOf j V := by simp
  refine ⟨g, R, cap, a2, cap2, C, _, rfl, hC, by rw [hget, hcell, hu], fun i hi => ?_⟩
  rw [hget] at hi
  rw [hu] at hrj
  obtain ⟨q, hq⟩ : ∃ q, a2 = some ⟨q, 0, none⟩ := by
    rcases hrj.2 with ⟨e1, e2⟩ | ⟨g', cap', cur, e1, _⟩
    · omega
    · injection e1 with e1' e2' e3'
      exact ⟨g', e1'⟩
  subst hq
  obtain ⟨C', hC'⟩ := owns_cells hrj (k := q) rfl
  have h1 := blkCells_get (levOf j V) i hi
  refine ⟨q, C', _, rfl, hC', ?_, ?_⟩
  · rw [hrj.cellAt (i * 2) (by omega), Nat.mul_comm, h1.1]
    simp
  · rw [hrj.cellAt (i * 2 + 1) (by omega), Nat.mul_comm, h1.2]
    simp
end
/-- the old block of a place -/
def wasV (OL : List (List (Int × ByteArray))) (row place : Nat) : Int × ByteArray := (OL.getD row []).getD place (0, none0)
section
variable {ov : Value} {OL : List (List (Int × ByteArray))} {w : World} {s l pl : Nat}
set_option maxRecDepth 100000 in
set_option maxHeartbeats 2000000 in
theorem was_any (hs : w.heap[s]? = some (StObj l pl ov)) (ho : OldAt ov OL w) (row place : Nat) (_hr : row ≤ 100) (_hp : place ≤ 100000) :
    Calls Tryz.prog 107 #[.pointer (some ⟨s, 0, none⟩), .int .i64 row, .int .i64 place] w fun e w' => e = .returned (.agg #[.int .i64 (wasV OL row place).1, .string (wasV OL row place).2]) ∧ Below w.heap.size w w' := by
  obtain ⟨a, cap, rfl⟩ := ho.len
  obtain ⟨w1, hw1⟩ : ∃ w1, w.alloc (.cells #[.int .i64 0, .string none0] 128) = w1 := ⟨_, rfl⟩
  have hB1 : Below w.heap.size w w1 := by rw [← hw1]; exact (Below.refl _ w).alloc (Nat.le_refl _) _
  have c2 := StObj.c2 (keeps_of hB1 hs)
  have hob : w1.heap[w.heap.size]? = some (.cells #[.int .i64 0, .string none0] 128 (0, 0)) := by rw [← hw1]; exact heap_alloc_new _ _
  have d0 : w1.cell? ⟨w.heap.size, 0, none⟩ = some (.int .i64 0) := by simp [World.cell?, hob]
  have d1 : w1.cell? ⟨w.heap.size, 1, none⟩ = some (.string none0) := by simp [World.cell?, hob]
  have fr0 : w1.frozen? ⟨w.heap.size, 0, none⟩ = false := by simp [World.frozen?, hob]
  have fr1 : w1.frozen? ⟨w.heap.size, 1, none⟩ = false := by simp [World.frozen?, hob]
  have ho1 := ho.below hB1
  have HB1 := Lib.hid hB1
  unfold none0 at hw1 d1
  obtain ⟨n, hn⟩ : ∃ n, OL.length = n := ⟨_, rfl⟩
  rw [hn] at c2
  by_cases h1 : row < OL.length
  · obtain ⟨g, r, cap', a2, cap2, C, fz, e1, e2, e3, e4⟩ := ho1.each row h1
    injection e1 with e1' e2' e3'
    subst e1'
    have hgd : OL.getD row [] = OL[row] := getD_at OL row [] h1
    obtain ⟨q, hq⟩ : ∃ q, OL[row].length = q := ⟨_, rfl⟩
    rw [hq] at e3
    have b1 : ¬ (n : Int) ≤ (row : Int) := by omega
    have b2 : (row : Int) < (n : Int) := by omega
    by_cases h2 : place < OL[row].length
    · obtain ⟨qb, C', f', g1, g2, g3, g4⟩ := e4 place h2
      subst g1
      have hW : wasV OL row place = OL[row][place] := by rw [wasV, hgd]; exact getD_at _ _ _ h2
      rw [hW]
      have b3 : ¬ (q : Int) ≤ (place : Int) := by omega
      have b4 : (place : Int) < (q : Int) := by omega
      generalize OL[row][place] = t at *
      obtain ⟨tv, tp⟩ := t
      simp only at g3 g4 ⊢
      clear h1 h2 hgd hW e4 ho ho1 hn hq hs e2 g2 hB1 hob
      go_enter Tryz.func107, Tryz.ntmps107
      go_wp2
      refine bodyPost_ret ?_ rfl ⟨rfl, ?_⟩
      · rw [DG.results_cell rfl]
        go_simp
      · exact below_set (below_set HB1.out (Nat.le_refl _) _) (Nat.le_refl _) _
    · have hW : wasV OL row place = (0, ⟨#[]⟩) := by
        rw [wasV, hgd, List.getD_eq_getElem?_getD, List.getElem?_eq_none (by omega)]
        rfl
      rw [hW]
      have b3 : (q : Int) ≤ (place : Int) := by omega
      clear h1 h2 hgd hW e4 ho ho1 hn hq hs e2 hB1 hob
      go_enter Tryz.func107, Tryz.ntmps107
      go_wp2
      refine bodyPost_ret ?_ rfl ⟨rfl, ?_⟩
      · rw [DG.results_cell rfl]
        go_simp
      · first | exact below_set (below_set HB1.out (Nat.le_refl _) _) (Nat.le_refl _) _ | exact HB1.out
  · have hW : wasV OL row place = (0, ⟨#[]⟩) := by
      have e : OL.getD row [] = [] := by rw [List.getD_eq_getElem?_getD, List.getElem?_eq_none (by omega)]; rfl
      rw [wasV, e]
      rfl
    rw [hW]
    have b1 : (n : Int) ≤ (row : Int) := by omega
    clear h1 hW ho ho1 hn hs hB1 hob
    go_enter Tryz.func107, Tryz.ntmps107
    go_wp2
    refine bodyPost_ret ?_ rfl ⟨rfl, ?_⟩
    · rw [DG.results_cell rfl]
      go_simp
    · first | exact below_set (below_set HB1.out (Nat.le_refl _) _) (Nat.le_refl _) _ | exact HB1.out
end
/-! ### a row is laid -/
/-- a row's blocks that bear the parts of these bytes -/
def oldRow (old : List Nat) (had : List UInt8) : List (Int × ByteArray) := (List.range old.length).map fun i => (((old.getD i 0 : Nat) : Int), bsL (TR.part had i))
theorem wasV_old {OL : List (List (Int × ByteArray))} {row : Nat} {old : List Nat} {had : List UInt8} (h : OL.getD row [] = oldRow old had) (i : Nat) : wasV OL row i = if i < old.length then (((old.getD i 0 : Nat) : Int), bsL (TR.part had i)) else (0, none0) := by
  rw [wasV, h, oldRow]
  split
  · rename_i hi
    rw [getD_at _ _ _ (by simpa using hi)]
    simp
  · rename_i hi
    rw [List.getD_eq_getElem?_getD, List.getElem?_eq_none (by simpa using hi)]
    rfl
section
variable {w0 w : World} {l b g m c pl n f k s : Nat} {u : List UInt8} {M : Mem} {W P : Nat → Prop} {x : VS} {ov : Value} {OL : List (List (Int × ByteArray))} {old : List Nat} {had bt : List UInt8}
/-- the block that carries the part at a place -/
theorem keep_row (hs : w.heap[s]? = some (StObj l pl ov)) (hsP : ¬ P s) (h : TB w0 l b g m c pl u n f k M W x P w) {row : Nat} (hol : OL.getD row [] = oldRow old had) (i : Nat) (hne : TR.part bt i ≠ []) :
    Calls Tryz.prog 106 #[.pointer (some ⟨s, 0, none⟩), .string (bsL (TR.part bt i)), .agg #[.int .i64 (wasV OL row i).1, .string (wasV OL row i).2]] w fun e w' => ∃ (nb k' : Nat) (E : Int) (M' : Mem) (x' : VS) (P' : Nat → Prop), e = .returned (.tuple #[.int .i64 nb, .int .i64 E]) ∧ TB w0 l b g m c pl u n f k' M' W x' P' w' ∧ k ≤ k' ∧ KK P w w' ∧ (∀ j, P' j → P j ∨ w.heap.size ≤ j) ∧
      ((E = 0 ∧ ∀ K', storeRow old had bt (K' + 1) i M ((ord u n f).drop k) = ⟨(storeRow old had bt K' (i + 1) M' ((ord u n f).drop k')).ok, nb :: (storeRow old had bt K' (i + 1) M' ((ord u n f).drop k')).now, (storeRow old had bt K' (i + 1) M' ((ord u n f).drop k')).mem, (storeRow old had bt K' (i + 1) M' ((ord u n f).drop k')).free⟩) ∨
        (E = 112 ∧ ∀ K', storeRow old had bt (K' + 1) i M ((ord u n f).drop k) = ⟨false, [], M', (ord u n f).drop k'⟩)) := by
  have hsz : (bsL (TR.part bt i)).size ≤ 240 := by rw [size_bsL, TR.length_part]; omega
  rw [wasV_old hol]
  by_cases hsh : i < old.length ∧ TR.part had i = TR.part bt i
  · rw [if_pos hsh.1, hsh.2]
    refine (keep_same hs _ _).mono ?_
    rintro e w' ⟨rfl, hB⟩
    refine ⟨old.getD i 0, k, 0, M, x, P, rfl, h.later hB, Nat.le_refl _, KK.of_below hB, fun j hj => .inl hj, .inl ⟨rfl, fun K' => ?_⟩⟩
    rw [TR.row_share hsh, getD_at old i 0 hsh.1]
  · have hdiff : ∀ t, (if i < old.length then (((old.getD i 0 : Nat) : Int), bsL (TR.part had i)) else ((0 : Int), none0)) = t → t.2 ≠ bsL (TR.part bt i) := fun t ht => by
      subst ht
      split
      · rename_i hi
        exact fun e => hsh ⟨hi, by have := congrArg (fun q : ByteArray => q.data.toList) e; simpa [data_bsL] using this⟩
      · exact fun e => hne (by have := congrArg (fun q : ByteArray => q.data.toList) e; simpa [data_bsL, none0] using this.symm)
    obtain ⟨t, ht⟩ : ∃ t, (if i < old.length then (((old.getD i 0 : Nat) : Int), bsL (TR.part had i)) else ((0 : Int), none0)) = t := ⟨_, rfl⟩
    have hd := hdiff t ht
    rw [ht]
    have hkl := h.pool.k_le.1
    by_cases hk : k < (ord u n f).length
    · refine (keep_take hs hsP h hk t.1 t.2 _ hd hsz).mono ?_
      rintro e w' ⟨rfl, x', P', h1, h2, h3⟩
      rw [data_bsL] at h1
      refine ⟨_, k + 1, 0, _, x', P', rfl, h1, by omega, h2, h3, .inl ⟨rfl, fun K' => ?_⟩⟩
      rw [List.drop_eq_getElem_cons hk, TR.row_take hsh]
    · refine (keep_full hs h (by omega) t.1 t.2 _ hd).mono ?_
      rintro e w' ⟨rfl, hB⟩
      refine ⟨0, k, 112, M, x, P, rfl, h.later hB, Nat.le_refl _, KK.of_below hB, fun j hj => .inl hj, .inr ⟨rfl, fun K' => ?_⟩⟩
      rw [List.drop_eq_nil_of_le (by omega), TR.row_full hsh]
theorem slice_any (x : ByteArray) (i j : Nat) (hij : i ≤ j) (hj : j ≤ x.size) (_hx : x.size ≤ 1000000) (W : World) :
    (Instr.slice 9 (.string x) (some (.int .i64 (i : Int))) (some (.int .i64 (j : Int))) none).run Tryz.prog W = .ok (.string (x.extract i j)) W := by
  have := run_slice_string W 9 x .i64 .i64 (i : Int) (j : Int) Tryz.underlying9 (by omega) (by omega) (by omega)
  rw [Int.toNat_natCast, Int.toNat_natCast] at this
  exact this
theorem extract_part (bt : List UInt8) (i : Nat) (h : 240 * i ≤ bt.length) : (bsL bt).extract (240 * i) (min (240 * i + 240) bt.length) = bsL (TR.part bt i) := by
  apply ByteArray.ext
  apply Array.toList_inj.1
  rw [Lib.extract_data, data_bsL]
  show _ = TR.part bt i
  unfold TR.part
  apply List.ext_getElem?
  intro j
  rw [List.getElem?_take, List.getElem?_take]
  by_cases hj : j < 240
  · rw [if_pos hj]
    by_cases h2 : j < min (240 * i + 240) bt.length - 240 * i
    · rw [if_pos h2]
    · rw [if_neg h2, List.getElem?_drop, List.getElem?_eq_none (by omega)]
  · rw [if_neg hj, if_neg (by omega)]
set_option maxRecDepth 100000 in
set_option maxHeartbeats 4000000 in
theorem tlay_any (hs : w.heap[s]? = some (StObj l pl ov)) (hsP : ¬ P s) (ho : OldAt ov OL w) (h : TB w0 l b g m c pl u n f k M W x P w) {row : Nat} (hrow : row ≤ 100) (hol : OL.getD row [] = oldRow old had) (hb : bt.length ≤ 16384) :
    Calls Tryz.prog 72 #[.pointer (some ⟨s, 0, none⟩), .int .i64 row, .string (bsL bt)] w fun e w' => ∃ (v : Value) (k' : Nat) (x' : VS) (P' : Nat → Prop), TB w0 l b g m c pl u n f k' (storeRow old had bt (cuts bt.length) 0 M ((ord u n f).drop k)).mem W x' P' w' ∧ (storeRow old had bt (cuts bt.length) 0 M ((ord u n f).drop k)).free = (ord u n f).drop k' ∧ k ≤ k' ∧ KK P w w' ∧ (∀ j, P' j → P j ∨ w.heap.size ≤ j) ∧
      (((storeRow old had bt (cuts bt.length) 0 M ((ord u n f).drop k)).ok = true ∧ e = .returned (.tuple #[v, .int .i64 0]) ∧ w'.ownsRow w.heap.size 3 1 v (storeRow old had bt (cuts bt.length) 0 M ((ord u n f).drop k)).now.length (ints (storeRow old had bt (cuts bt.length) 0 M ((ord u n f).drop k)).now) ∧ ∀ j, v.ownBlock = some j → ¬ P' j) ∨
        ((storeRow old had bt (cuts bt.length) 0 M ((ord u n f).drop k)).ok = false ∧ e = .returned (.tuple #[v, .int .i64 112]) ∧ v = .slice none 0 0)) := by
  obtain ⟨R, hR⟩ : ∃ R, storeRow old had bt (cuts bt.length) 0 M ((ord u n f).drop k) = R := ⟨_, rfl⟩
  rw [hR]
  obtain ⟨K, hK⟩ : ∃ K, cuts bt.length = K := ⟨_, rfl⟩
  rw [hK] at hR
  obtain ⟨T, hT⟩ : ∃ T, bsL bt = T := ⟨_, rfl⟩
  rw [hT]
  have hTs : T.size = bt.length := by rw [← hT, size_bsL]
  have HT := Lib.hid hT
  have HTs := Lib.hid hTs
  have HK := Lib.hid hK
  have HR := Lib.hid hR
  have HS := Lib.hid hs
  have HSP := Lib.hid hsP
  have HO := Lib.hid ho
  have H := Lib.hid h
  have hT16 : T.size ≤ 16384 := by omega
  have hKs : K ≤ 69 := by rw [← hK]; unfold cuts; omega
  clear hT hTs hK hR hs hsP ho h
  obtain ⟨i0, hi, hz0, hz1, hz2⟩ := info_parts info3
  go_enter Tryz.func72, Tryz.ntmps72
  go_wp2
  go_loopw [8, 9] (fun v at_ wr => ∃ (i A ki : Nat) (now : List Nat) (Mi : Mem) (xi : VS) (Pi : Nat → Prop), i ≤ K ∧ at_ = .int .i64 (A : Nat) ∧ Hid (A = 240 * i) ∧ Hid (wr.ownsRow w.heap.size 3 1 v i (ints now)) ∧ Hid (now.length = i) ∧ Hid (∀ j, v.ownBlock = some j → ¬ Pi j) ∧ Hid (TB w0 l b g m c pl u n f ki Mi W xi Pi wr) ∧ Hid (k ≤ ki) ∧ Hid (KK P w wr) ∧ Hid (∀ j, Pi j → P j ∨ w.heap.size ≤ j) ∧
    Hid (R = ⟨(storeRow old had bt (K - i) i Mi ((ord u n f).drop ki)).ok, now ++ (storeRow old had bt (K - i) i Mi ((ord u n f).drop ki)).now, (storeRow old had bt (K - i) i Mi ((ord u n f).drop ki)).mem, (storeRow old had bt (K - i) i Mi ((ord u n f).drop ki)).free⟩)) (fun _ at_ _ => 17000 - (intOf at_).toNat)
  case atStart => exact ⟨0, 0, k, [], M, x, P, Nat.zero_le _, rfl, Lib.hid rfl, Lib.hid (World.ownsRow_nil _ _ _ _), Lib.hid rfl, Lib.hid (fun j e => by simp [Value.ownBlock] at e), H, Lib.hid (Nat.le_refl _), Lib.hid (KK.of_below (Below.refl _ _)), Lib.hid (fun j hj => .inl hj), Lib.hid (by rw [Nat.sub_zero, HR.out]; rfl)⟩
  case round =>
    obtain ⟨i, A, ki, now, Mi, xi, Pi, hik, rfl, HA, HRow, HNow, HSep, HTB, HKi, HKK, HPi, HQ⟩ := hrel
    obtain ⟨a, cap, rfl⟩ := row_shape HRow.out
    by_cases hlt : i < K
    · have hAlt : A < T.size := by
        have h1 := HA.out
        have h2 := HTs.out
        have h3 := HK.out
        unfold cuts at h3
        omega
      have hAi : (A : Int) < (T.size : Int) := by omega
      have HLt := Lib.hid hlt
      have HAlt := Lib.hid (show A < 17000 by omega)
      have hsl : ∀ W, (Instr.slice 9 (.string T) (some (.int .i64 (A : Int))) (some (.int .i64 (min ((A : Int) + 240) (T.size : Int)))) none).run Tryz.prog W = .ok (.string (bsL (TR.part bt i))) W := fun W => by
        have h1 := slice_any T A (min (A + 240) T.size) (by omega) (by omega) (by omega) W
        rw [show ((min (A + 240) T.size : Nat) : Int) = min ((A : Int) + 240) (T.size : Int) by omega] at h1
        rw [h1, ← HT.out, HA.out, size_bsL, extract_part bt i (by have := HA.out; have := HTs.out; omega)]
      have hpne : TR.part bt i ≠ [] := fun e => by
        have h1 := congrArg List.length e
        rw [TR.length_part] at h1
        have := HA.out
        have := HTs.out
        simp at h1
        omega
      have hsr := HKK.out.keep HS.out (by unfold VK; decide) HSP.out
      have hsPi : ¬ Pi s := fun e => by
        rcases HPi.out s e with e | e
        · exact HSP.out e
        · have := lt_of_heap HS.out; omega
      have hor := HO.out.kk H.out.pool HKK.out
      have C1 := was_any hsr hor row i hrow (by omega)
      have C2 := fun w2 (hB : Below wr.heap.size wr w2) => keep_row (keeps_of hB hsr) hsPi (HTB.out.later hB) hol i hpne
      have h4 : K - i = (K - (i + 1)) + 1 := by omega
      have H4 := Lib.hid h4
      obtain ⟨wv, hwv⟩ : ∃ wv, wasV OL row i = wv := ⟨_, rfl⟩
      rw [hwv] at C1 C2
      generalize bsL (TR.part bt i) = Pt at *
      have hii : (i : Int) ≤ 69 := by omega
      clear hpne hsr hsPi hor h4 hwv hlt
      go_wp2_with fail
      refine C1.mono ?_
      rintro e w2 ⟨rfl, hB2⟩
      have C3 := C2 _ hB2
      have HB2 := Lib.hid hB2
      clear hB2 C1 C2
      go_wp2_with fail
      refine C3.mono ?_
      rintro e w3 ⟨nb, k', E, M', x', P', rfl, hTB3, hk3, hKK3, hP3, hE⟩
      have HTB3 := Lib.hid hTB3
      have HK3 := Lib.hid (Nat.le_trans HKi.out hk3)
      have HKK3 := Lib.hid (HKK.out.trans ((KK.of_below HB2.out : KK Pi _ _).trans hKK3 (fun i hi => .inl hi)) HPi.out)
      have HP3 := Lib.hid (show ∀ j, P' j → Pi j ∨ wr.heap.size ≤ j from fun j hj => by
        rcases hP3 j hj with h1 | h1
        · exact .inl h1
        · exact .inr (Nat.le_trans HB2.out.size h1))
      have HRow3 := Lib.hid (((KK.of_below HB2.out : KK Pi _ _).trans hKK3 (fun i hi => .inl hi)).row HRow.out (by unfold VK; decide) HSep.out)
      have HSep3 := Lib.hid (show ∀ j, (Value.slice a i cap).ownBlock = some j → ¬ P' j from fun j e hj => by
        rcases HP3.out j hj with h1 | h1
        · exact HSep.out j e h1
        · have := (HRow.out.lt j e).2; omega)
      have hsz3 : w.heap.size ≤ w3.heap.size := HKK3.out.size
      clear hTB3 hk3 hKK3 hP3 C3 hsl
      rcases hE with ⟨rfl, hq⟩ | ⟨rfl, hq⟩
      · have HQ3 := Lib.hid (show R = ⟨(storeRow old had bt (K - (i + 1)) (i + 1) M' ((ord u n f).drop k')).ok, (now ++ [nb]) ++ (storeRow old had bt (K - (i + 1)) (i + 1) M' ((ord u n f).drop k')).now, (storeRow old had bt (K - (i + 1)) (i + 1) M' ((ord u n f).drop k')).mem, (storeRow old had bt (K - (i + 1)) (i + 1) M' ((ord u n f).drop k')).free⟩ by
          rw [HQ.out, H4.out, hq, List.append_assoc]
          rfl)
        clear hq
        go_wp2_with (at_builtin; refine wpList_append_own_at _ rfl _ _ 34 rfl w.heap.size 3 i0 (.int .i64 0) 1 8 Tryz.underlying34 hi hz0 hz1 hz2 rfl (by decide) (.slice a i cap) i _ rfl (HRow3.out.alloc _) ⟨w3.heap.size, 0, none⟩ 1 1 [.int .i64 nb] rfl rfl (cell_one_new _ _ _) (by simp [Value.oneCell']) (by unfold maxLen; omega) (by omega) (by rw [World.size_alloc]; omega) ?_; intro v' w4 hown' hgrow _ hat)
        have hS4 : Stir (fun j => (Value.slice a i cap).ownBlock = some j) w3 w4 := by
          refine ⟨hgrow.os, hgrow.tape, hgrow.output, Nat.le_trans (by simp) hgrow.size, fun j hj hn => ?_⟩
          rw [hgrow.block j (by rw [World.size_alloc]; omega) (fun e => hn e.symm)]
          exact Below.heap_alloc w3 _ j hj
        have HTB4 := Lib.hid (HTB3.out.own hS4 (fun j hj => ⟨Nat.le_trans H.out.vw.below.size (HRow3.out.lt j hj).1, by
          obtain ⟨cur, hc⟩ := owns_cells HRow3.out hj
          exact ⟨_, _, _, hc, by unfold VK; decide⟩, HSep3.out j hj⟩))
        have HKK4 := Lib.hid (HKK3.out.trans (KK.of_stir hS4) (fun j hj => .inr (HRow3.out.lt j hj).1))
        have HSep4 := Lib.hid (show ∀ j, v'.ownBlock = some j → ¬ P' j from fun j e hj => by
          rcases hat with h1 | h1
          · exact HSep3.out j (h1.symm.trans e) hj
          · rw [h1] at e
            have h2 := (HTB3.out.pool.lt hj).1
            have h3 : (w3.alloc (.cells #[.int .i64 nb] 3)).heap.size = j := Option.some.inj e
            rw [World.size_alloc] at h3
            omega)
        have HOwn := Lib.hid hown'
        have HP4 := Lib.hid (show ∀ j, P' j → P j ∨ w.heap.size ≤ j from fun j hj => by
          rcases HP3.out j hj with h1 | h1
          · exact HPi.out j h1
          · exact .inr (Nat.le_trans HKK.out.size h1))
        obtain ⟨g', cap', rfl⟩ := ownsRow_succ hown'
        clear hS4 hown' hgrow hat
        go_wp2
        go_roundw
        case rel => exact ⟨i + 1, A + 240, k', now ++ [nb], M', x', P', by have := HLt.out; omega, by go_num, Lib.hid (by have := HA.out; omega), Lib.hid (by have := HOwn.out; rw [show ints (now ++ [nb]) = ints now ++ [.int .i64 nb] by simp [ints]]; exact this), Lib.hid (by rw [List.length_append, HNow.out]; rfl), HSep4, HTB4, HK3, HKK4, HP4, HQ3⟩
        case measure => exact (show ∀ A : Nat, A < 17000 → 17000 - ((A : Int) + 240).toNat < 17000 - (A : Int).toNat from fun A hA => by omega) A HAlt.out
      · have HQ3 := Lib.hid (show R = ⟨false, now, M', (ord u n f).drop k'⟩ by
          rw [HQ.out, H4.out, hq, List.append_nil])
        clear hq
        go_wp2
        go_ret2
        refine ⟨_, k', x', P', by rw [HQ3.out]; exact HTB3.out, by rw [HQ3.out], HK3.out, HKK3.out, fun j hj => ?_, .inr ⟨by rw [HQ3.out], rfl, rfl⟩⟩
        rcases HP3.out j hj with h1 | h1
        · exact HPi.out j h1
        · exact .inr (Nat.le_trans HKK.out.size h1)
    · obtain rfl : i = K := by omega
      have hAge : ¬ (A : Int) < (T.size : Int) := by
        have h1 := HA.out
        have h2 := HTs.out
        have h3 := HK.out
        unfold cuts at h3
        omega
      have HQ3 := Lib.hid (show R = ⟨true, now, Mi, (ord u n f).drop ki⟩ by
        rw [HQ.out, Nat.sub_self, storeRow, List.append_nil])
      go_wp2
      go_ret2
      exact ⟨_, ki, xi, Pi, by rw [HQ3.out]; exact HTB.out, by rw [HQ3.out], HKi.out, HKK.out, HPi.out, .inl ⟨by rw [HQ3.out], rfl, by rw [HQ3.out]; show wr.ownsRow _ _ _ _ now.length _; rw [HNow.out]; exact HRow.out, HSep.out⟩⟩
end
end Go.Proofs.YtmloljjllmmkoaaGreat

namespace Go.Proofs.YtmloljjllmmkoaaGreat
open Go.ChangeShapes Go.WideShapes Go.ChangeAt Go.RowKit Go.Shelf Go Go.Maps SM PL AL TR

theorem rdOne_disk (x : VS) (v : Int) (row n : Nat) : (rdOne x v row n).x.disk = x.disk := by rw [seen_x]; exact made_vread x v
theorem loop_disk {step : Nat → VS → RT} (h : ∀ i y, (step i y).x.disk = y.disk) : ∀ k i x, (loopN step k i x).x.disk = x.disk
  | 0, i, x => rfl
  | k + 1, i, x => by
    by_cases e : (step i x).e = 0
    · rw [loopN_go e, RT.and, loop_disk h k (i + 1) _, h]
    · rw [loopN_stop e, h]
theorem nd_disk (chunks : Bool) : ∀ l x v n, (nd chunks l x v n).x.disk = x.disk
  | 0, x, v, n => by
    rw [nd]
    split
    · exact rdOne_disk x v 0 n
    · rfl
  | l + 1, x, v, n => by
    rw [nd]
    split
    · rw [RT.and, loop_disk (step := fun i y => nd chunks l y (ptrAt (x.read v).2.1 i) (min (sp l) (n - i * sp l))) (fun i y => nd_disk chunks l y _ _)]
      exact rdOne_disk x v _ _
    · exact rdOne_disk x v _ _
theorem ndBlob_disk (chunks : Bool) (x : VS) (root size : Int) : (ndBlob chunks x root size).x.disk = x.disk := by
  unfold ndBlob
  split
  · rfl
  · split
    · rfl
    · exact nd_disk _ _ _ _ _
/-! ### rows -/
theorem rmax_app (a b : Vis) : rmax (a ++ b) = max (rmax a) (rmax b) := by
  unfold rmax
  rw [List.foldl_append]
  have h : ∀ (L : Vis) (z : Nat), L.foldl (fun a t => max a (t.1 + 1)) z = max z (L.foldl (fun a t => max a (t.1 + 1)) 0) := by
    intro L
    induction L with
    | nil => intro z; simp
    | cons t L ih =>
      intro z
      rw [List.foldl_cons, List.foldl_cons, ih, ih (max 0 (t.1 + 1))]
      omega
  exact h b _
theorem rmax_visN (M : Mem) (lv : List (List Nat)) (chunks : Bool) : ∀ l a, rmax (visN M lv chunks l a) = l + 1
  | 0, a => by simp [visN, rmax]
  | l + 1, a => by
    have h : ∀ L : List Nat, rmax (L.flatMap fun i => visN M lv chunks l (60 * a + i)) ≤ l + 1 := by
      intro L
      induction L with
      | nil => simp [rmax]
      | cons i L ih => rw [List.flatMap_cons, rmax_app, rmax_visN M lv chunks l]; omega
    have e : visN M lv chunks (l + 1) a = [(l + 1, (((lv.getD (l + 1) []).getD a 0 : Nat) : Int), bsL (M ((lv.getD (l + 1) []).getD a 0)))] ++ (List.range (manyN (lv.getD l []).length a)).flatMap (fun i => visN M lv chunks l (60 * a + i)) := rfl
    rw [e, rmax_app]
    have h1 := h (List.range (manyN (lv.getD l []).length a))
    have h2 : rmax [(l + 1, (((lv.getD (l + 1) []).getD a 0 : Nat) : Int), bsL (M ((lv.getD (l + 1) []).getD a 0)))] = l + 1 + 1 := by simp [rmax]
    rw [h2]
    omega
theorem rmax_visT (M : Mem) (lv : List (List Nat)) (chunks : Bool) : rmax (visT M lv chunks) = lv.length := by
  unfold visT
  split
  · rename_i h; subst h; rfl
  · rename_i h
    rw [rmax_visN]
    have := List.length_pos_iff.2 h
    omega
/-- the bytes of an old tree's row -/
def hadOf (lv : List (List Nat)) (had : List UInt8) : Nat → List UInt8
  | 0 => had
  | r + 1 => ptrs (lv.getD r [])
theorem old_row {M : Mem} {lv : List (List Nat)} {had : List UInt8} (h : Tree M lv had) (r : Nat) : rowV M (lv.getD r []) = oldRow (lv.getD r []) (hadOf lv had r) := by
  by_cases hr : r < lv.length
  · have hB : ∀ i (hi : i < (lv.getD r []).length), M (lv.getD r [])[i] = TR.part (hadOf lv had r) i := by
      cases r with
      | zero => exact ((tree_at h 0 hr).chunk rfl).2
      | succ r => exact ((tree_at h (r + 1) hr).point r rfl).2
    rw [oldRow, rowV]
    apply List.ext_getElem
    · simp
    · intro i h1 h2
      have hi : i < (lv.getD r []).length := by simpa using h1
      simp only [List.getElem_map, List.getElem_range]
      rw [getD_at _ i 0 hi, hB i hi]
  · have e : lv.getD r [] = [] := by rw [List.getD_eq_getElem?_getD, List.getElem?_eq_none (by omega)]; rfl
    rw [e]; rfl
/-- the old rows that Store holds -/
theorem old_all {M : Mem} {lv : List (List Nat)} {had : List UInt8} (h : Tree M lv had) (alike : Bool) {R : Nat} (hR : R = if alike then lv.length else min lv.length 1) {r : Nat} (hr : alike = true → r < lv.length) :
    ((List.range R).map fun j => levOf j (visT M lv true)).getD r [] = oldRow (if decide (r = 0) || alike then (lv.drop r).headD [] else []) (hadOf lv had r) := by
  have hhd : (lv.drop r).headD [] = lv.getD r [] := by
    rw [List.headD_eq_head?_getD, List.head?_drop, List.getD_eq_getElem?_getD]
  rw [hhd]
  by_cases hrR : r < R
  · rw [getD_at _ _ _ (by simpa using hrR)]
    simp only [List.getElem_map, List.getElem_range]
    rw [lev_visT h, old_row h]
    have : (decide (r = 0) || alike) = true := by
      cases alike with
      | true => simp
      | false => simp at hR; have : r = 0 := by omega
                 simp [this]
    rw [if_pos this]
  · rw [List.getD_eq_getElem?_getD, List.getElem?_eq_none (by simpa using hrR)]
    cases alike with
    | true => simp at hR; exact absurd (hr rfl) (by omega)
    | false =>
      simp only [Bool.or_false]
      by_cases h0 : r = 0
      · subst h0
        simp at hR
        have hl : lv.length = 0 := by omega
        have : lv = [] := List.eq_nil_of_length_eq_zero hl
        subst this
        rfl
      · rw [if_neg (by simp [h0])]
        rfl
theorem row_len {old : List Nat} {had b : List UInt8} : ∀ (k i : Nat) (M : Mem) (fr : List Nat), (storeRow old had b k i M fr).ok = true → (storeRow old had b k i M fr).now.length = k
  | 0, i, M, fr, _ => rfl
  | k + 1, i, M, fr, h => by
    by_cases hs : i < old.length ∧ TR.part had i = TR.part b i
    · rw [row_share hs] at h ⊢
      rw [List.length_cons, row_len k _ _ _ h]
    · cases fr with
      | nil => rw [row_full hs] at h; cases h
      | cons q fr =>
        rw [row_take hs] at h ⊢
        rw [List.length_cons, row_len k _ _ _ h]
theorem row_in {old : List Nat} {had b : List UInt8} : ∀ (k i : Nat) (M : Mem) (fr : List Nat) (y : Nat), y ∈ (storeRow old had b k i M fr).now → y ∈ old ∨ y ∈ fr
  | 0, i, M, fr, y, h => by simp [storeRow] at h
  | k + 1, i, M, fr, y, h => by
    by_cases hs : i < old.length ∧ TR.part had i = TR.part b i
    · rw [row_share hs] at h
      rcases List.mem_cons.1 h with rfl | h
      · exact .inl (List.getElem_mem hs.1)
      · exact row_in k _ _ _ _ h
    · cases fr with
      | nil => rw [row_full hs] at h; cases h
      | cons q fr =>
        rw [row_take hs] at h
        rcases List.mem_cons.1 h with rfl | h
        · exact .inr List.mem_cons_self
        · rcases row_in k _ _ _ _ h with h | h
          · exact .inl h
          · exact .inr (List.mem_cons_of_mem _ h)
theorem rows_step {n r : Nat} (hn : n ≤ 16384) (h : r < (rowsL n).length) : (rowsL n)[r] = cuts (if r = 0 then n else 4 * (rowsL n).getD (r - 1) 0) ∧ 1 ≤ (rowsL n)[r] := by
  have h0 : n ≠ 0 := fun e => by subst e; rw [rowsL_nil.2 rfl] at h; simp at h
  have hr := rows_is h0 hn
  have hl := rows_levels h0 hn
  have key : ∀ L : List Nat, rowsL n = L → ∀ (h' : r < L.length), (L[r] = cuts (if r = 0 then n else 4 * L.getD (r - 1) 0) ∧ 1 ≤ L[r]) → (rowsL n)[r] = cuts (if r = 0 then n else 4 * (rowsL n).getD (r - 1) 0) ∧ 1 ≤ (rowsL n)[r] := by
    intro L e h' g
    subst e
    exact g
  by_cases h1 : n ≤ 240
  · rw [if_pos h1] at hr
    rw [if_neg (by omega), if_neg (by omega)] at hl
    obtain rfl : r = 0 := by omega
    refine key _ hr (by simp) ⟨?_, ?_⟩
    · simp only [List.getElem_cons_zero, if_true]; unfold cuts; omega
    · simp
  · by_cases h2 : n ≤ 14400
    · rw [if_neg h1, if_pos h2] at hr
      rw [if_neg (by omega), if_pos (by omega)] at hl
      obtain rfl | rfl : r = 0 ∨ r = 1 := by omega
      · refine key _ hr (by simp) ⟨?_, ?_⟩
        · simp
        · show 1 ≤ cuts n; unfold cuts; omega
      · refine key _ hr (by simp) ⟨?_, ?_⟩
        · (show 1 = cuts (4 * cuts n)); unfold cuts; omega
        · simp
    · rw [if_neg h1, if_neg h2] at hr
      rw [if_pos (by omega)] at hl
      obtain rfl | rfl | rfl : r = 0 ∨ r = 1 ∨ r = 2 := by omega
      · refine key _ hr (by simp) ⟨?_, ?_⟩
        · simp
        · show 1 ≤ cuts n; unfold cuts; omega
      · refine key _ hr (by simp) ⟨?_, ?_⟩
        · (show 2 = cuts (4 * cuts n)); unfold cuts; omega
        · simp
      · refine key _ hr (by simp) ⟨?_, ?_⟩
        · show 1 = cuts (4 * 2); rfl
        · simp
theorem lv_step (alike : Bool) (k : Nat) (ks : List Nat) (first : Bool) (olds : List (List Nat)) (had b : List UInt8) (M : Mem) (fr : List Nat) {r : RowR} (hr : storeRow (if first || alike then olds.headD [] else []) had b k 0 M fr = r) : storeLv alike (k :: ks) first olds had b M fr =
    if r.ok then ⟨(storeLv alike ks false olds.tail (ptrs (olds.headD [])) (ptrs r.now) r.mem r.free).ok, r.now :: (storeLv alike ks false olds.tail (ptrs (olds.headD [])) (ptrs r.now) r.mem r.free).lv, (storeLv alike ks false olds.tail (ptrs (olds.headD [])) (ptrs r.now) r.mem r.free).mem, (storeLv alike ks false olds.tail (ptrs (olds.headD [])) (ptrs r.now) r.mem r.free).free⟩
    else ⟨false, [], r.mem, r.free⟩ := by
  rw [storeLv, hr]
set_option maxRecDepth 100000 in
theorem slice_rows (a : Option Addr) (R cap k : Nat) (hk : k ≤ cap) (ha : a = none ∨ ∃ q, a = some ⟨q, 0, none⟩) (w : World) : (Instr.slice 120 (.slice a R cap) none (some (.int .i64 k)) none).run Tryz.prog w = .ok (.slice a k cap) w := by
  rw [run_slice_h _ 120 _ R cap Tryz.underlying120 .i64 k (by omega) (by omega)]
  have hs : (sizeOf (Tryz.prog.elem 120)).run Tryz.prog w = .ok 1 w := by kernel_rfl
  rw [hs]
  rcases ha with rfl | ⟨q, rfl⟩ <;> simp [Result.andThen, sliced, Addr.add]
theorem results_cell2 {fn : Func} {p q : Tmp} {ty : TypeId} (h : fn.results = #[.cell p ty, .tmp q]) (tmps : Array Value) (P : Program) (w : World) :
    (results fn tmps).run P w = ((asAddr (tmps.getD p undef)).run P w).andThen fun a w₁ => ((loadVar ty a).run P w₁).andThen fun v w₂ => .ok (.tuple #[v, tmps.getD q undef]) w₂ := by
  simp only [results, h]
  simp [Sem.run_bind, Result.andThen]
end Go.Proofs.YtmloljjllmmkoaaGreat

