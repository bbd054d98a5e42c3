/-
  BlkX / BlkY / BlkZ.
-/
import Derived.Test.YtmloljjllmmkoaaGreatBlkW
import Derived.Test.YtmloljjllmmkoaaGreatCB
import Derived.Test.YtmloljjllmmkoaaGreatDskZf
import Derived.Deep.RegionHeld3
namespace Go.Proofs.YtmloljjllmmkoaaGreat
open Go.RowKit Go Go.Maps SM

/-- the kinds of blocks that the reference's volume turns -/
def K8 (t : TypeId) : Prop := (t = 108 ∨ t = 9 ∨ t = 64) ∨ t = 117 ∨ t = 119
def RS8 (B : Nat) (w w' : World) : Prop := ∃ F : Nat → Prop, Stir F w w' ∧ ∀ i, F i → ∃ C t f, w.heap[i]? = some (.cells C t f) ∧ K8 t ∧ B ≤ i
section
variable {B : Nat} {w w' w'' : World}
theorem RS8.refl (B : Nat) (w : World) : RS8 B w w := ⟨fun _ => False, Stir.refl _ w, fun _ h => h.elim⟩
theorem RS8.of_below (h : Below w.heap.size w w') : RS8 B w w' := ⟨fun _ => False, Stir.of_below h, fun _ h => h.elim⟩
theorem RS8.trans (h : RS8 B w w') (k : RS8 B w' w'') : RS8 B w w'' := by
  obtain ⟨F, hs, hF⟩ := h
  obtain ⟨G, ks, kG⟩ := k
  refine ⟨fun i => F i ∨ (G i ∧ i < w.heap.size), (hs.weaken (fun _ e => .inl e)).trans ks (fun i e => ?_), ?_⟩
  · by_cases hi : i < w.heap.size
    · exact .inl (.inr ⟨e, hi⟩)
    · exact .inr (by omega)
  · rintro i (e | ⟨e, hi⟩)
    · exact hF i e
    · by_cases hf : F i
      · exact hF i hf
      · obtain ⟨C, t, f, hC, hr⟩ := kG i e
        rw [hs.block i hi hf] at hC
        exact ⟨C, t, f, hC, hr⟩
theorem RS8.size (k : RS8 B w w') : w.heap.size ≤ w'.heap.size := by obtain ⟨F, hs, _⟩ := k; exact hs.size
theorem RS8.and_below (h : RS8 B w w') (k : Below w'.heap.size w' w'') : RS8 B w w'' := h.trans (RS8.of_below k)
theorem RS8.below {w0 : World} (k : RS8 B w w') (h0 : Below B w0 w) (hB : B ≤ w.heap.size) : Below B w0 w' := by
  obtain ⟨F, hs, hF⟩ := k
  exact h0.trans (hs.below (fun i hi => by obtain ⟨C, t, f, _, _, h⟩ := hF i hi; exact h) hB)
theorem RS8.keep (k : RS8 B w w') {i : Nat} {t : TypeId} {C : Array Value} {f : Nat × Nat} (h : w.heap[i]? = some (.cells C t f)) (hk : ¬ K8 t) : w'.heap[i]? = some (.cells C t f) := by
  obtain ⟨F, hs, hF⟩ := k
  exact hs.keep h (fun hi => by
    obtain ⟨C', t', f', hC, ht, _⟩ := hF i hi
    rw [h] at hC
    simp at hC
    rw [← hC.2.1] at ht
    exact hk ht)
end
/-- what is so of every volume -/
structure FineV (x : VS) : Prop where
  ok : x.disk.Ok
  big : badV x.disk = false
  nle : x.num ≤ 1099511627776
  len : x.kept.length ≤ 32
  nod : (CI.keysL x.kept).Nodup
/-- the reference's volume, its disk, and what it keeps -/
structure RVC (q r B : Nat) (zs : List Int) (v0 v2 : Value) (x : VS) (c : Nat) (w : World) : Prop where
  obj : w.heap[q]? = some (RVO r x.text x.num c x.dead)
  ref : ∃ v1 kp, RefAt r B x.disk zs v0 v1 v2 kp w
  kept : ∃ G v, CI.RefAt B G c 32 v x.kept w
  low : B ≤ q
section
variable {q r B c : Nat} {zs : List Int} {v0 v1 v2 : Value} {kp : ByteArray} {s : DS} {x x' : VS} {w w' w'' : World}
theorem RVC.below (h : RVC q r B zs v0 v2 x c w) (hB : Below w.heap.size w w') : RVC q r B zs v0 v2 x c w' := by
  obtain ⟨v1, kp, hr⟩ := h.ref
  obtain ⟨G, v, hc⟩ := h.kept
  exact ⟨keeps_of hB h.obj, ⟨v1, kp, hr.below hB⟩, ⟨G, v, hc.later hB⟩, h.low⟩
theorem RVC.rv (h : RVC q r B zs v0 v2 x c w) : RV q r c B x.text x.num x.dead x.disk zs v0 v2 w w := ⟨h.obj, h.ref, Stir.refl _ _⟩
theorem RVC.mine (h : RVC q r B zs v0 v2 x c w) : ∀ i, (i = q ∨ RF r v0 i) → ∃ C t f, w.heap[i]? = some (.cells C t f) ∧ (t = 108 ∨ t = 9 ∨ t = 64) ∧ B ≤ i := by
  obtain ⟨v1, kp, hr⟩ := h.ref
  rintro i (rfl | rfl | e)
  · exact ⟨_, _, _, h.obj, .inr (.inr rfl), h.low⟩
  · exact ⟨_, _, _, hr.obj, .inl rfl, hr.low⟩
  · obtain ⟨C, hC⟩ := owns_block hr.st e
    exact ⟨C, _, _, hC, .inr (.inl rfl), (hr.st.lt _ e).1⟩
theorem kept_kinds {G : Nat → Prop} {v : Value} {L : List (Int × ByteArray)} (h : CI.RefAt B G c 32 v L w) : ∀ i, G i → ∃ C t f, w.heap[i]? = some (.cells C t f) ∧ (t = 117 ∨ t = 119) ∧ B ≤ i := by
  intro i hi
  rcases (h.own i).1 hi with rfl | e
  · exact ⟨_, _, _, h.obj, .inl rfl, h.low⟩
  · obtain ⟨C, hC⟩ := owns_block h.row e
    exact ⟨C, _, _, hC, .inr rfl, (h.row.lt _ e).1⟩
theorem apart_kinds {i : Nat} {C C' : Array Value} {t t' : TypeId} {f f' : Nat × Nat} (h : w.heap[i]? = some (.cells C t f)) (h' : w.heap[i]? = some (.cells C' t' f')) (ht : t = 108 ∨ t = 9 ∨ t = 64) (ht' : t' = 117 ∨ t' = 119) : False := by
  rw [h] at h'
  simp at h'
  have e := h'.2.1
  rcases ht with rfl | rfl | rfl <;> rcases ht' with rfl | rfl <;> exact absurd e (by decide)
/-- the volume's own blocks are turned, not those of what it keeps -/
theorem RVC.of_rv (h : RVC q r B zs v0 v2 x c w) (k : RV q r c B x'.text x'.num x'.dead x'.disk zs v0 v2 w w') (hk : x'.kept = x.kept) : RVC q r B zs v0 v2 x' c w' ∧ RS8 B w w' := by
  obtain ⟨G, v, hc⟩ := h.kept
  refine ⟨⟨k.obj, k.ref, ⟨G, v, ?_⟩, h.low⟩, _, k.stir, fun i hi => ?_⟩
  · rw [hk]
    refine hc.stay k.stir (fun b hb hf => ?_)
    obtain ⟨C, t, f, e, ht, _⟩ := h.mine b hf
    obtain ⟨C', t', f', e', ht', _⟩ := kept_kinds hc b hb
    exact apart_kinds e e' ht ht'
  · obtain ⟨C, t, f, e, ht, hb⟩ := h.mine i hi
    exact ⟨C, t, f, e, .inl ht, hb⟩
theorem RefAt.away {F : Nat → Prop} (h : RefAt r B s zs v0 v1 v2 kp w) (k : Stir F w w') (hn : ∀ i C t f, w.heap[i]? = some (.cells C t f) → t ≠ 117 → t ≠ 119 → ¬ F i) : RefAt r B s zs v0 v1 v2 kp w' :=
  ⟨k.keep h.obj (hn _ _ _ _ h.obj (by decide) (by decide)), owns_stay h.st k (fun i hi => by obtain ⟨C, hC⟩ := owns_block h.st hi; exact hn _ _ _ _ hC (by decide) (by decide)), owns_stay h.lo k (fun i hi => by obtain ⟨C, hC⟩ := owns_block h.lo hi; exact hn _ _ _ _ hC (by decide) (by decide)),
    owns_stay h.ba k (fun i hi => by obtain ⟨C, hC⟩ := owns_block h.ba hi; exact hn _ _ _ _ hC (by decide) (by decide)), h.bads, h.few, h.keep, h.kple, h.low⟩
/-- what it keeps is turned -/
theorem RVC.cached {G : Nat → Prop} {v : Value} {L : List (Int × ByteArray)} (h : RVC q r B zs v0 v2 x c w) (hc : CI.RefAt B G c 32 v x.kept w) (k : CI.RefLeft B G c 32 L w w') : RVC q r B zs v0 v2 { x with kept := L } c w' ∧ RS8 B w w' := by
  obtain ⟨v', G', h1, s1, _⟩ := k
  obtain ⟨v1, kp, hr⟩ := h.ref
  have hn : ∀ i C t f, w.heap[i]? = some (.cells C t f) → t ≠ 117 → t ≠ 119 → ¬ G i := fun i C t f e n1 n2 hg => by
    obtain ⟨C', t', f', e', ht', _⟩ := kept_kinds hc i hg
    rw [e] at e'
    simp at e'
    rcases ht' with j | j
    · exact n1 (e'.2.1.trans j)
    · exact n2 (e'.2.1.trans j)
  refine ⟨⟨s1.keep h.obj (hn _ _ _ _ h.obj (by decide) (by decide)), ⟨v1, kp, hr.away s1 hn⟩, ⟨G', v', h1⟩, h.low⟩, G, s1, fun i hi => ?_⟩
  obtain ⟨C, t, f, e, ht, hb⟩ := kept_kinds hc i hi
  exact ⟨C, t, f, e, .inr ht, hb⟩
theorem RVC.get (h : RVC q r B zs v0 v2 x c w) (hf : FineV x) (k : Int) :
    Calls Tryz.prog 123 #[.pointer (some ⟨c, 0, none⟩), .int .i64 k] w fun e w' => e = .returned (CI.getV x.kept k) ∧ RVC q r B zs v0 v2 { x with kept := CI.useL x.kept k } c w' ∧ RS8 B w w' := by
  obtain ⟨G, v, hc⟩ := h.kept
  exact (CI.rget_any hc (by have := hf.len; omega) hf.nod k).mono fun _ _ hh => ⟨hh.1, h.cached hc hh.2⟩
theorem RVC.put (h : RVC q r B zs v0 v2 x c w) (hl : x.kept.length ≤ 32) (hn : (CI.keysL x.kept).Nodup) (k : Int) (p : ByteArray) :
    Calls Tryz.prog 29 #[.pointer (some ⟨c, 0, none⟩), .int .i64 k, .string p] w fun e w' => (∃ z, e = .returned (.tuple z)) ∧ RVC q r B zs v0 v2 { x with kept := CI.putL 32 x.kept k p } c w' ∧ RS8 B w w' := by
  obtain ⟨G, v, hc⟩ := h.kept
  refine (CI.rput_any hc hl (by omega) (by omega) hn k p).mono fun _ _ hh => ⟨?_, h.cached hc hh.2⟩
  rw [hh.1]
  unfold CI.putV
  cases CI.goneL 32 x.kept k p <;> exact ⟨_, rfl⟩
theorem RVC.drop (h : RVC q r B zs v0 v2 x c w) (hl : x.kept.length ≤ 32) (hn : (CI.keysL x.kept).Nodup) (k : Int) :
    Calls Tryz.prog 28 #[.pointer (some ⟨c, 0, none⟩), .int .i64 k] w fun e w' => e = .returned (.bool (CI.getL x.kept k).isSome) ∧ RVC q r B zs v0 v2 { x with kept := CI.dropL x.kept k } c w' ∧ RS8 B w w' := by
  obtain ⟨G, v, hc⟩ := h.kept
  exact (CI.rdrop_any hc (by omega) hn k).mono fun _ _ hh => ⟨hh.1, h.cached hc hh.2⟩
theorem RVC.told (h : RVC q r B zs v0 v2 x c w) (e : Int) :
    Calls Tryz.prog 26 #[.pointer (some ⟨q, 0, none⟩), .int .i64 e] w fun o w' => o = .returned (.int .i64 e) ∧ RVC q r B zs v0 v2 { x with dead := x.dead || (e == 2) } c w' ∧ RS8 B w w' :=
  (rvtold_any h.rv e).mono fun _ _ hh => ⟨hh.1, h.of_rv (x' := { x with dead := x.dead || (e == 2) }) hh.2 rfl⟩
theorem RVC.dwrite (h : RVC q r B zs v0 v2 x c w) (hk : x.disk.Ok) (hm : x.disk.made < 1000000000) (i : Int) (hi : I64 i) (y : ByteArray) :
    Calls Tryz.prog 27 #[.pointer (some ⟨r, 0, none⟩), .int .i64 i, .string y] w fun e w' => e = .returned (.int .i64 (x.disk.writeE i y)) ∧ RVC q r B zs v0 v2 { x with disk := x.disk.write i y } c w' ∧ RS8 B w w' := by
  obtain ⟨v1, kp, hr⟩ := h.ref
  exact (rwrite_at hr hk (by omega) i hi y).mono fun _ _ hh => ⟨hh.1, h.of_rv (x' := { x with disk := x.disk.write i y }) (h.rv.turn hh.2.1 hh.2.2) rfl⟩
theorem RVC.dsync (h : RVC q r B zs v0 v2 x c w) (hk : x.disk.Ok) (hm : x.disk.made < 1000000000) :
    Calls Tryz.prog 90 #[.pointer (some ⟨r, 0, none⟩)] w fun e w' => e = .returned (.int .i64 x.disk.syncE) ∧ RVC q r B zs v0 v2 { x with disk := x.disk.sync } c w' ∧ RS8 B w w' := by
  obtain ⟨v1, kp, hr⟩ := h.ref
  exact (rsync_at hr hk (by omega)).mono fun _ _ hh => ⟨hh.1, h.of_rv (x' := { x with disk := x.disk.sync }) (h.rv.turn hh.2.1 hh.2.2) rfl⟩
set_option maxRecDepth 100000 in
theorem rvin_any (h : RVC q r B zs v0 v2 x c w) (hk : x.disk.Ok) (v : Int) :
    Calls Tryz.prog 24 #[.pointer (some ⟨q, 0, none⟩), .int .i64 v] w fun e w' => e = .returned (.bool (x.has v)) ∧ w = w' := by
  obtain ⟨v1, kp, hr⟩ := h.ref
  obtain ⟨a0, c00, rfl⟩ := row_shape hr.st
  have c0 := RO.c0 hr.obj
  have d0 := RVO.c0 h.obj
  have hle := hk.le
  unfold VS.has blkN
  generalize x.disk.stay.length = N at *
  have hd1 : (N : Int).tdiv 4 = ((N / 4 : Nat) : Int) := by rw [Int.tdiv_eq_ediv_of_nonneg (by omega)]; omega
  have hd2 : (N : Int) / 4 = ((N / 4 : Nat) : Int) := by omega
  have hq : N / 4 ≤ 4096 := by omega
  generalize N / 4 = M at *
  clear h hr hk
  by_cases h1 : 1 ≤ v
  · by_cases h2 : v < (M : Int)
    · go_enter Tryz.func24, Tryz.ntmps24
      go_wp2
      go_ret
      exact ⟨by simp [h1, h2], rfl⟩
    · go_enter Tryz.func24, Tryz.ntmps24
      go_wp2
      go_ret
      exact ⟨by simp [h2], rfl⟩
  · go_enter Tryz.func24, Tryz.ntmps24
    go_wp2
    go_ret
    exact ⟨by simp; intro; omega, rfl⟩
end
end Go.Proofs.YtmloljjllmmkoaaGreat

namespace Go.Proofs.YtmloljjllmmkoaaGreat
open Go.RowKit Go Go.Maps SM

/-- a root is written, and synced, by the reference's volume -/
def VS.keeps (x : VS) (t : ByteArray) (n : Nat) : VS := ⟨(rootPut t n x.disk).2, if (rootPut t n x.disk).1 = 0 then t else x.text, if (rootPut t n x.disk).1 = 0 then n else x.num, x.kept, x.dead || ((rootPut t n x.disk).1 == 2)⟩
theorem VS.told0 {x : VS} (hd : x.dead = false) (s : DS) : ({ x with disk := s, dead := x.dead || ((0 : Int) == 2) } : VS) = { x with disk := s } := by
  obtain ⟨a1, a2, a3, a4, a5⟩ := x
  simp only at hd
  subst hd
  rfl
section
variable {q r B c : Nat} {zs : List Int} {v0 v2 : Value} {x : VS} {w w' : World}
theorem RVC.keeps (h : RVC q r B zs v0 v2 x c w) (hk : x.disk.Ok) (hm : x.disk.made < 1000000000) {t1 : ByteArray} {n1 : Nat} (ht : t1.size ≤ 40) (hn : n1 ≤ 281474976710655) :
    Calls Tryz.prog 46 #[.pointer (some ⟨q, 0, none⟩), .string t1, .int .i64 n1] w fun e w' => e = .returned (.int .i64 (rootPut t1 n1 x.disk).1) ∧ RVC q r B zs v0 v2 (x.keeps t1 n1) c w' ∧ RS8 B w w' :=
  (rkeeps_any h.rv hk hm ht hn).mono fun _ _ hh => ⟨hh.1, h.of_rv (x' := x.keeps t1 n1) hh.2 rfl⟩
theorem RVC.dread (h : RVC q r B zs v0 v2 x c w) (hk : x.disk.Ok) (hm : x.disk.made < 1000000000) (i : Int) (hi : I64 i) :
    Calls Tryz.prog 124 #[.pointer (some ⟨r, 0, none⟩), .int .i64 i] w fun e w' => e = .returned (.tuple #[.string (x.disk.readS i), .int .i64 (x.disk.readE i)]) ∧ w = w' := by
  obtain ⟨v1, kp, hr⟩ := h.ref
  exact rread_at hr hk (by omega) i hi
theorem slice_sec8 (y : ByteArray) (j : Nat) (h : 64 * j + 64 ≤ y.size) (W : World) :
    (Instr.slice 9 (.string y) (some (.int .i64 (64 * (j : Int)))) (some (.int .i64 (64 * (j : Int) + 64))) none).run Tryz.prog W = .ok (.string (secB y.data.toList j)) W := by
  have := slice_sec y j h W
  rwa [show (j : Int) * 64 = 64 * (j : Int) by omega, show ((j : Int) + 1) * 64 = 64 * (j : Int) + 64 by omega] at this
set_option maxRecDepth 100000 in
set_option maxHeartbeats 8000000 in
theorem rwrite8_any (h : RVC q r B zs v0 v2 x c w) (hf : FineV x) (hm : x.disk.made < 900000000) (v : Int) (p : ByteArray) (hp : p.size ≤ 140737488355328) :
    Calls Tryz.prog 6 #[.pointer (some ⟨q, 0, none⟩), .int .i64 v, .string p] w fun e w' => e = .returned (.int .i64 (x.write v p).1) ∧ RVC q r B zs v0 v2 (x.write v p).2 c w' ∧ RS8 B w w' := by
  obtain ⟨R, hR⟩ : ∃ R, x.write v p = R := ⟨_, rfl⟩
  rw [hR]
  have H := Lib.hid h
  have CH := rvin_any h hf.ok v
  have c3 := RVO.c3 h.obj
  have c4 := RVO.c4 h.obj
  by_cases h1 : x.has v = true
  · rw [h1] at CH
    have hr := has_is.1 h1
    have hb := big_is hf.big
    have CF := fun w => rframe_any p hp w
    by_cases h2 : 240 < p.size
    · have HR2 := Lib.hid (show R = (83, x) by rw [← hR, VS.write, h1, if_neg (by decide), if_pos h2])
      unfold frameV at CF
      rw [if_pos h2] at CF
      clear h hR hb hr h2
      go_enter Tryz.func6, Tryz.ntmps6
      go_wp2_with fail
      refine CH.mono ?_
      rintro e w' ⟨rfl, rfl⟩
      go_wp2_with fail
      refine (CF _).mono ?_
      rintro e w1 ⟨rfl, hB1⟩
      have HV1 := Lib.hid (H.out.below hB1)
      have S1 := Lib.hid (RS8.of_below (B := B) hB1)
      clear hB1 CF
      go_wp2
      go_ret
      exact ⟨by rw [HR2.out]; rfl, by rw [HR2.out]; exact HV1.out, S1.out⟩
    · unfold frameV at CF
      rw [if_neg h2] at CF
      cases hd : x.dead with
      | true =>
        have HR2 := Lib.hid (show R = (2, x) by rw [← hR, VS.write, h1, if_neg (by decide), if_neg h2, hd]; rfl)
        rw [hd] at c4
        have HD := Lib.hid hd
        generalize frameB p = Y at *
        clear h hR hb hr h2 hd c4
        go_enter Tryz.func6, Tryz.ntmps6
        go_wp2_with fail
        refine CH.mono ?_
        rintro e w' ⟨rfl, rfl⟩
        go_wp2_with fail
        refine (CF _).mono ?_
        rintro e w1 ⟨rfl, hB1⟩
        have HV1 := Lib.hid (H.out.below hB1)
        have S1 := Lib.hid (RS8.of_below (B := B) hB1)
        have d4 := RVO.c4 HV1.out.obj
        rw [HD.out] at d4
        clear hB1 CF
        go_wp2
        go_ret
        exact ⟨by rw [HR2.out]; rfl, by rw [HR2.out]; exact HV1.out, S1.out⟩
      | false =>
        have HD := Lib.hid hd
        obtain ⟨n, rfl⟩ : ∃ n : Nat, v = (n : Int) := ⟨v.toNat, by omega⟩
        have hn : n ≤ 1048576 := by omega
        have hyl : (frameB p).data.toList = frameL p.data.toList := ofB_list _
        have hys := size_frameB (p := p) (by omega)
        have HRR := Lib.hid (show R = if (puts (4 * n) (frameL p.data.toList) 4 0 x.disk).1 ≠ 0 then ((puts (4 * n) (frameL p.data.toList) 4 0 x.disk).1, { x with disk := (puts (4 * n) (frameL p.data.toList) 4 0 x.disk).2, kept := CI.dropL x.kept (n : Int), dead := (puts (4 * n) (frameL p.data.toList) 4 0 x.disk).1 == 2 }) else (0, { x with disk := (puts (4 * n) (frameL p.data.toList) 4 0 x.disk).2, kept := CI.putL 32 x.kept (n : Int) p }) by
          rw [← hR, VS.write, h1, if_neg (by decide), if_neg h2, hd]
          simp only [Int.toNat_natCast, storeV]
          rfl)
        have HSL := Lib.hid (fun j hj W => slice_sec8 (frameB p) j hj W)
        rw [← hyl] at HRR
        have HY := Lib.hid hys
        have HL := Lib.hid (And.intro hf.len hf.nod)
        generalize frameB p = Y at *
        have H0 := Lib.hid (show (⟨x.disk, x.text, x.num, x.kept, false⟩ : VS) = x by rw [← hd])
        have HOk := Lib.hid hf.ok
        clear h hR hb hr h2 hd c3 hyl hys hf
        go_enter Tryz.func6, Tryz.ntmps6
        go_wp2_with fail
        refine CH.mono ?_
        rintro e w' ⟨rfl, rfl⟩
        go_wp2_with fail
        refine (CF _).mono ?_
        rintro e w1 ⟨rfl, hB1⟩
        have HV1 := Lib.hid (show RVC q r B zs v0 v2 ⟨x.disk, x.text, x.num, x.kept, false⟩ c w1 by rw [H0.out]; exact H.out.below hB1)
        have S1 := Lib.hid (RS8.of_below (B := B) hB1)
        have d4 := RVO.c4 HV1.out.obj
        simp only at d4
        clear hB1 CF c4 H CH
        go_wp2
        go_loopw [9] (fun i wr => ∃ (j : Nat) (sj : DS), j ≤ 4 ∧ i = .int .i64 j ∧ Hid (puts (4 * n) Y.data.toList 4 0 x.disk = puts (4 * n) Y.data.toList (4 - j) j sj) ∧ Hid (RVC q r B zs v0 v2 ⟨sj, x.text, x.num, x.kept, false⟩ c wr) ∧ Hid (RS8 B w wr) ∧ Hid (sj.Ok ∧ sj.made ≤ x.disk.made + j)) (fun i _ => 4 - (intOf i).toNat)
        case atStart => exact ⟨0, x.disk, by omega, rfl, Lib.hid rfl, HV1, S1, Lib.hid ⟨HOk.out, by omega⟩⟩
        case round =>
          clear HV1 S1 d4
          obtain ⟨j, sj, hj, rfl, HQ, H1, HS, HM⟩ := hrel
          by_cases hlt : j < 4
          · have hji : (j : Int) < 4 := by omega
            have hsl := HSL.out j (by have := HY.out; omega)
            have H1d := Lib.hid (H1.out.below ((Below.refl _ wr).drew))
            have c0 := RVO.c0 H1d.out.obj
            have CT := fun y e W (h : RVC q r B zs v0 v2 y c W) => h.told e
            have hi2 : 4 * (n : Int) + (j : Int) = ((4 * n + j : Nat) : Int) := by omega
            have CW := fun W (h : RVC q r B zs v0 v2 ⟨sj, x.text, x.num, x.kept, false⟩ c W) => h.dwrite HM.out.1 (by have := HM.out.2; show sj.made < _; omega) (4 * (n : Int) + (j : Int)) ⟨by omega, by omega⟩ (secB Y.data.toList j)
            simp only at CW
            have w1 : IntKind.i64.wrap (4 * (n : Int)) = 4 * (n : Int) := IntWalk.i64_in _ (by omega)
            have w2 : IntKind.i64.wrap (4 * (n : Int) + (j : Int)) = 4 * (n : Int) + (j : Int) := IntWalk.i64_in _ (by omega)
            have w3 : IntKind.i64.wrap (64 * (j : Int)) = 64 * (j : Int) := IntWalk.i64_in _ (by omega)
            have w5 : IntKind.i64.wrap (64 * (j : Int) + 64) = 64 * (j : Int) + 64 := IntWalk.i64_in _ (by omega)
            have h4 : 4 - j = (4 - (j + 1)) + 1 := by omega
            have hmade := made_write' sj (4 * (n : Int) + (j : Int)) (secB Y.data.toList j)
            have hok2 := HM.out.1.write (4 * (n : Int) + (j : Int)) (secB Y.data.toList j)
            by_cases hE : sj.writeE (4 * (n : Int) + (j : Int)) (secB Y.data.toList j) = 0
            · have HQ2 := Lib.hid (show puts (4 * n) Y.data.toList 4 0 x.disk = puts (4 * n) Y.data.toList (4 - (j + 1)) (j + 1) (sj.write (4 * (n : Int) + (j : Int)) (secB Y.data.toList j)) by rw [HQ.out, h4, puts_go (by rw [← hi2]; exact hE), hi2])
              rw [hE] at CW
              have HM2 := Lib.hid (show (sj.write (4 * (n : Int) + (j : Int)) (secB Y.data.toList j)).Ok ∧ (sj.write (4 * (n : Int) + (j : Int)) (secB Y.data.toList j)).made ≤ x.disk.made + (j + 1) from ⟨hok2, by have := HM.out.2; omega⟩)
              generalize secB Y.data.toList j = Z at *
              generalize sj.write (4 * (n : Int) + (j : Int)) Z = s2 at *
              clear hE h4 HQ hmade hok2 HM hi2
              go_wp2
              go_region_held3 (fun w' => w'.cell? ⟨q, 0, none⟩ = some (.pointer (some ⟨r, 0, none⟩))) (first | exact c0 | exact d0 | exact e0)
                (first
                  | (go_at_call 27; refine (CW _ H1d.out).mono ?_; rintro e w5 ⟨rfl, h5, s5⟩; have H5 := Lib.hid h5; have S5 := Lib.hid ((HS.out.and_below ((Below.refl _ _).drew)).trans s5); have d0 := RVO.c0 h5.obj; clear h5 s5)
                  | (go_at_call 26; refine (CT _ _ _ H5.out).mono ?_; rintro e w6 ⟨rfl, h6, s6⟩; have H6 := Lib.hid h6; have S6 := Lib.hid (S5.out.trans s6); have e0 := RVO.c0 h6.obj; clear h6 s6))
              all_goals (
                go_wp2
                go_roundw
                case rel => exact ⟨j + 1, s2, by omega, by go_num, HQ2, H6, S6, HM2⟩
                case measure => simp [intOf]; omega)
            · have HQ2 := Lib.hid (show R = (sj.writeE (4 * (n : Int) + (j : Int)) (secB Y.data.toList j), ⟨sj.write (4 * (n : Int) + (j : Int)) (secB Y.data.toList j), x.text, x.num, CI.dropL x.kept (n : Int), false || (sj.writeE (4 * (n : Int) + (j : Int)) (secB Y.data.toList j) == 2)⟩) by
                rw [HRR.out, HQ.out, h4, puts_stop (by rw [← hi2]; exact hE), ← hi2, if_pos hE, Bool.false_or])
              have hEb : (sj.writeE (4 * (n : Int) + (j : Int)) (secB Y.data.toList j) != 0) = true := by simpa using hE
              generalize secB Y.data.toList j = Z at *
              generalize sj.write (4 * (n : Int) + (j : Int)) Z = s2 at *
              generalize sj.writeE (4 * (n : Int) + (j : Int)) Z = E at *
              have CD := fun W (h : RVC q r B zs v0 v2 ⟨s2, x.text, x.num, x.kept, false || (E == 2)⟩ c W) => h.drop HL.out.1 HL.out.2 (n : Int)
              simp only at CD
              clear hE h4 HQ hmade hok2 HM hi2 HRR
              go_wp2
              go_region_held3 (fun w' => w'.cell? ⟨q, 0, none⟩ = some (.pointer (some ⟨r, 0, none⟩))) (first | exact c0 | exact d0 | exact e0)
                (first
                  | (go_at_call 27; refine (CW _ H1d.out).mono ?_; rintro e w5 ⟨rfl, h5, s5⟩; have H5 := Lib.hid h5; have S5 := Lib.hid ((HS.out.and_below ((Below.refl _ _).drew)).trans s5); have d0 := RVO.c0 h5.obj; clear h5 s5)
                  | (go_at_call 26; refine (CT _ _ _ H5.out).mono ?_; rintro e w6 ⟨rfl, h6, s6⟩; have H6 := Lib.hid h6; have S6 := Lib.hid (S5.out.trans s6); have e0 := RVO.c0 h6.obj; have e3 := RVO.c3 h6.obj; clear h6 s6))
              all_goals (
                go_wp2_with fail
                refine (CD _ H6.out).mono ?_
                rintro e w7 ⟨rfl, h7, s7⟩
                have H7 := Lib.hid h7
                have S7 := Lib.hid (S6.out.trans s7)
                clear h7 s7 CD
                go_wp2
                go_ret
                exact ⟨by rw [HQ2.out]; rfl, by rw [HQ2.out]; exact H7.out, S7.out⟩)
          · have hji : ¬ (j : Int) < 4 := by omega
            have h0 : 4 - j = 0 := by omega
            have HQ2 := Lib.hid (show R = (0, ⟨sj, x.text, x.num, CI.putL 32 x.kept (n : Int) p, false⟩) by rw [HRR.out, HQ.out, h0, puts_zero, if_neg (by simp), ← H0.out])
            have CP := fun W (h : RVC q r B zs v0 v2 ⟨sj, x.text, x.num, x.kept, false⟩ c W) => h.put HL.out.1 HL.out.2 (n : Int) p
            simp only at CP
            have d3 := RVO.c3 H1.out.obj
            clear HQ h0 HRR
            go_wp2_with fail
            refine (CP _ H1.out).mono ?_
            rintro e w7 ⟨⟨z, rfl⟩, h7, s7⟩
            have H7 := Lib.hid h7
            have S7 := Lib.hid (HS.out.trans s7)
            clear h7 s7 CP
            go_wp2
            go_ret
            exact ⟨by rw [HQ2.out]; rfl, by rw [HQ2.out]; exact H7.out, S7.out⟩
  · have h1' := Bool.eq_false_iff.2 h1
    rw [h1'] at CH
    have HR2 := Lib.hid (show R = (81, x) by rw [← hR, VS.write, h1', if_pos rfl])
    clear h hR h1 h1'
    go_enter Tryz.func6, Tryz.ntmps6
    go_wp2_with fail
    refine CH.mono ?_
    rintro e w' ⟨rfl, rfl⟩
    go_wp2
    go_ret
    exact ⟨by rw [HR2.out]; rfl, by rw [HR2.out]; exact H.out, RS8.refl _ _⟩
end
end Go.Proofs.YtmloljjllmmkoaaGreat

namespace Go.Proofs.YtmloljjllmmkoaaGreat
open Go.RowKit Go Go.Maps SM

theorem bsL_app (L : List UInt8) (y : ByteArray) : bsL L ++ y = bsL (L ++ y.data.toList) := by
  apply ByteArray.ext
  apply Array.toList_inj.1
  simp [bsL]
section
variable {q r B c : Nat} {zs : List Int} {v0 v2 : Value} {x : VS} {w w' : World}
set_option maxRecDepth 100000 in
set_option maxHeartbeats 8000000 in
theorem rread8_any (h : RVC q r B zs v0 v2 x c w) (hf : FineV x) (hm : x.disk.made < 900000000) (v : Int) :
    Calls Tryz.prog 96 #[.pointer (some ⟨q, 0, none⟩), .int .i64 v] w fun e w' => e = .returned (.tuple #[.string (x.read v).2.1, .int .i64 (x.read v).1]) ∧ RVC q r B zs v0 v2 (x.read v).2.2 c w' ∧ RS8 B w w' := by
  obtain ⟨R, hR⟩ : ∃ R, x.read v = R := ⟨_, rfl⟩
  rw [hR]
  have H := Lib.hid h
  have CH := rvin_any h hf.ok v
  have c3 := RVO.c3 h.obj
  have c4 := RVO.c4 h.obj
  by_cases h1 : x.has v = true
  · rw [h1] at CH
    have hr := has_is.1 h1
    have hb := big_is hf.big
    cases hd : x.dead with
    | true =>
      have HR2 := Lib.hid (show R = (2, none0, x) by rw [← hR, VS.read, h1, hd]; rfl)
      rw [hd] at c4
      clear h hR hb hr hd
      go_enter Tryz.func96, Tryz.ntmps96
      go_wp2_with fail
      refine CH.mono ?_
      rintro e w' ⟨rfl, rfl⟩
      go_wp2
      go_ret2
      exact ⟨by rw [HR2.out]; rfl, by rw [HR2.out]; exact H.out, RS8.refl _ _⟩
    | false =>
      rw [hd] at c4
      have CG := h.get hf v
      have hc : (∃ p, CI.getL x.kept v = some p) ∨ CI.getL x.kept v = none := by
        cases CI.getL x.kept v with
        | none => exact .inr rfl
        | some p => exact .inl ⟨p, rfl⟩
      rcases hc with ⟨p, hg⟩ | hg
      · have HR2 := Lib.hid (show R = (0, p, { x with kept := CI.useL x.kept v }) by rw [← hR, VS.read, h1, hd, hg]; rfl)
        have hgv : CI.getV x.kept v = .tuple #[.string p, .bool true] := by unfold CI.getV; rw [hg]
        rw [hgv] at CG
        generalize ({ x with kept := CI.useL x.kept v } : VS) = y at *
        clear h hR hb hr hg hd hgv
        go_enter Tryz.func96, Tryz.ntmps96
        go_wp2_with fail
        refine CH.mono ?_
        rintro e w' ⟨rfl, rfl⟩
        go_wp2_with fail
        refine CG.mono ?_
        rintro e w1 ⟨rfl, h1, s1⟩
        have H1 := Lib.hid h1
        have S1 := Lib.hid s1
        clear h1 s1 CG
        go_wp2
        go_ret2
        exact ⟨by rw [HR2.out]; rfl, by rw [HR2.out]; exact H1.out, S1.out⟩
      · have hgv : CI.getV x.kept v = .tuple #[.string ⟨#[]⟩, .bool false] := by unfold CI.getV; rw [hg]
        have hu : CI.useL x.kept v = x.kept := by unfold CI.useL; rw [hg]
        rw [hgv, hu] at CG
        obtain ⟨n, rfl⟩ : ∃ n : Nat, v = (n : Int) := ⟨v.toNat, by omega⟩
        have hn : n ≤ 1048576 := by omega
        have HRR := Lib.hid (show R = if (loads x.disk (4 * n) 4 0).1 ≠ 0 then ((loads x.disk (4 * n) 4 0).1, none0, { x with dead := (loads x.disk (4 * n) 4 0).1 == 2 }) else match unframe (bsL (loads x.disk (4 * n) 4 0).2) with
            | some p => (0, p, { x with kept := CI.putL 32 x.kept (n : Int) p })
            | none => (82, none0, x) by
          rw [← hR, VS.read, h1, hd, hg]
          simp only [Int.toNat_natCast, loadV]
          rfl)
        have HL := Lib.hid (And.intro hf.len hf.nod)
        have HOk := Lib.hid hf.ok
        have HD := Lib.hid hd
        have HX := Lib.hid (show ({ x with kept := x.kept } : VS) = x from rfl)
        have HMd := Lib.hid hm
        clear h hR hb hr hd hf hg hgv hu hm
        go_enter Tryz.func96, Tryz.ntmps96
        go_wp2_with fail
        refine CH.mono ?_
        rintro e w' ⟨rfl, rfl⟩
        go_wp2_with fail
        refine CG.mono ?_
        rintro e w1 ⟨rfl, h1, s1⟩
        have HV1 := Lib.hid (show RVC q r B zs v0 v2 x c w1 from h1)
        have S1 := Lib.hid s1
        clear h1 s1 CG CH H HX c4 c3
        go_wp2
        go_loopw [8, 9] (fun sv i wr => ∃ (j : Nat) (L : List UInt8), j ≤ 4 ∧ sv = .string (bsL L) ∧ i = .int .i64 j ∧ Hid (loads x.disk (4 * n) 4 0 = ((loads x.disk (4 * n) (4 - j) j).1, L ++ (loads x.disk (4 * n) (4 - j) j).2)) ∧ Hid (L.length = 64 * j) ∧ Hid (RVC q r B zs v0 v2 x c wr) ∧ Hid (RS8 B w wr)) (fun _ i _ => 4 - (intOf i).toNat)
        case atStart => exact ⟨0, [], by omega, rfl, rfl, Lib.hid (by simp), Lib.hid rfl, HV1, S1⟩
        case round =>
          clear HV1 S1
          obtain ⟨j, L, hj, rfl, rfl, HQ, Hl, HI, HS⟩ := hrel
          by_cases hlt : j < 4
          · have hji : (j : Int) < 4 := by omega
            have c0 := RVO.c0 HI.out.obj
            have C2 := HI.out.dread HOk.out (by have := HMd.out; omega) (4 * (n : Int) + (j : Int)) ⟨by omega, by omega⟩
            have hi2 : 4 * (n : Int) + (j : Int) = ((4 * n + j : Nat) : Int) := by omega
            have w1 : IntKind.i64.wrap (4 * (n : Int)) = 4 * (n : Int) := IntWalk.i64_in _ (by omega)
            have w2 : IntKind.i64.wrap (4 * (n : Int) + (j : Int)) = 4 * (n : Int) + (j : Int) := IntWalk.i64_in _ (by omega)
            have h4 : 4 - j = (4 - (j + 1)) + 1 := by omega
            have HSz := Lib.hid (fun he => HOk.out.readS_size (n := 4 * (n : Int) + (j : Int)) he)
            have CT := fun e W (h : RVC q r B zs v0 v2 x c W) => h.told e
            by_cases hE : x.disk.readE (4 * (n : Int) + (j : Int)) = 0
            · have HQ2 := Lib.hid (show loads x.disk (4 * n) 4 0 = ((loads x.disk (4 * n) (4 - (j + 1)) (j + 1)).1, (L ++ (x.disk.readS (4 * (n : Int) + (j : Int))).data.toList) ++ (loads x.disk (4 * n) (4 - (j + 1)) (j + 1)).2) by
                rw [HQ.out, h4, loads_go (by rw [← hi2]; exact hE), ← hi2, List.append_assoc])
              have hsz := HSz.out hE
              rw [hE] at C2
              have hsL : (bsL L).size ≤ 192 := by rw [size_bsL, Hl.out]; omega
              have happ := bsL_app L (x.disk.readS (4 * (n : Int) + (j : Int)))
              have hll := Lib.hid (show (L ++ (x.disk.readS (4 * (n : Int) + (j : Int))).data.toList).length = 64 * (j + 1) by rw [List.length_append, len_of, hsz, Hl.out]; omega)
              have hszY : (x.disk.readS (4 * (n : Int) + (j : Int))).size ≤ 64 := Nat.le_of_eq hsz
              generalize x.disk.readS (4 * (n : Int) + (j : Int)) = Y at *
              obtain ⟨L2, hL2⟩ : ∃ L2, L ++ Y.data.toList = L2 := ⟨_, rfl⟩
              rw [hL2] at happ hll HQ2
              generalize bsL L = S at *
              obtain ⟨S2, hS2⟩ : ∃ S2, bsL L2 = S2 := ⟨_, rfl⟩
              rw [hS2] at happ
              have HS2 := Lib.hid hS2
              clear hE h4 hi2 HQ hsz HSz hL2 CT hS2
              go_wp2_with fail
              refine C2.mono ?_
              rintro e w2 ⟨rfl, rfl⟩
              go_wp2
              go_roundw
              case rel => exact ⟨j + 1, L2, by omega, by rw [HS2.out], by go_num, HQ2, hll, HI, HS⟩
              case measure => simp [intOf]; omega
            · have HQ2 := Lib.hid (show R = (x.disk.readE (4 * (n : Int) + (j : Int)), none0, { x with dead := x.dead || (x.disk.readE (4 * (n : Int) + (j : Int)) == 2) }) by
                have e1 : (loads x.disk (4 * n) 4 0).1 = x.disk.readE (4 * (n : Int) + (j : Int)) := by rw [HQ.out, h4, loads_stop (by rw [← hi2]; exact hE), ← hi2]
                rw [HRR.out, e1, if_pos hE, HD.out, Bool.false_or])
              have hEb : (x.disk.readE (4 * (n : Int) + (j : Int)) != 0) = true := by simpa using hE
              generalize x.disk.readE (4 * (n : Int) + (j : Int)) = E at *
              generalize x.disk.readS (4 * (n : Int) + (j : Int)) = Y at *
              generalize bsL L = S at *
              clear hE h4 HQ hi2 HSz HRR
              go_wp2_with fail
              refine C2.mono ?_
              rintro e w2 ⟨rfl, rfl⟩
              go_wp2_with fail
              refine (CT _ _ HI.out).mono ?_
              rintro e w6 ⟨rfl, h6, s6⟩
              have H6 := Lib.hid h6
              have S6 := Lib.hid (HS.out.trans s6)
              clear h6 s6 CT
              go_wp2
              go_ret2
              exact ⟨by rw [HQ2.out]; rfl, by rw [HQ2.out]; exact H6.out, S6.out⟩
          · have hji : ¬ (j : Int) < 4 := by omega
            have h0 : 4 - j = 0 := by omega
            have hlo : loads x.disk (4 * n) 4 0 = (0, L) := by rw [HQ.out, h0, loads, List.append_nil]
            have hR3 : R = match unframe (bsL L) with
                | some p => (0, p, { x with kept := CI.putL 32 x.kept (n : Int) p })
                | none => (82, none0, x) := by rw [HRR.out, hlo, if_neg (by simp)]
            have CU := fun w => runframe_any (bsL L) (by rw [size_bsL, Hl.out]; omega) w
            unfold unframeV at CU
            have hu : (∃ p, unframe (bsL L) = some p) ∨ unframe (bsL L) = none := by
              cases unframe (bsL L) with
              | none => exact .inr rfl
              | some p => exact .inl ⟨p, rfl⟩
            rcases hu with ⟨p, hu⟩ | hu
            · rw [hu] at CU hR3
              simp only at CU hR3
              have HR2 := Lib.hid hR3
              have CP := fun W (h : RVC q r B zs v0 v2 x c W) => h.put HL.out.1 HL.out.2 (n : Int) p
              generalize bsL L = S at *
              generalize ({ x with kept := CI.putL 32 x.kept (n : Int) p } : VS) = y at *
              clear HQ h0 HRR hlo hR3 hu
              go_wp2_with fail
              refine (CU _).mono ?_
              rintro e w3 ⟨rfl, hB3⟩
              have H3 := Lib.hid (HI.out.below hB3)
              have S3 := Lib.hid (HS.out.and_below hB3)
              have d3 := RVO.c3 H3.out.obj
              clear hB3 CU
              go_wp2_with fail
              refine (CP _ H3.out).mono ?_
              rintro e w7 ⟨⟨z, rfl⟩, h7, s7⟩
              have H7 := Lib.hid h7
              have S7 := Lib.hid (S3.out.trans s7)
              clear h7 s7 CP
              go_wp2
              go_ret2
              exact ⟨by rw [HR2.out]; rfl, by rw [HR2.out]; exact H7.out, S7.out⟩
            · rw [hu] at CU hR3
              simp only at CU hR3
              have HR2 := Lib.hid hR3
              generalize bsL L = S at *
              clear HQ h0 HRR hlo hR3 hu
              go_wp2_with fail
              refine (CU _).mono ?_
              rintro e w3 ⟨rfl, hB3⟩
              have H3 := Lib.hid (HI.out.below hB3)
              have S3 := Lib.hid (HS.out.and_below hB3)
              clear hB3 CU
              go_wp2
              go_ret2
              exact ⟨by rw [HR2.out]; rfl, by rw [HR2.out]; exact H3.out, S3.out⟩
  · have h1' := Bool.eq_false_iff.2 h1
    rw [h1'] at CH
    have HR2 := Lib.hid (show R = (81, none0, x) by rw [← hR, VS.read, h1']; rfl)
    clear h hR h1 h1'
    go_enter Tryz.func96, Tryz.ntmps96
    go_wp2_with fail
    refine CH.mono ?_
    rintro e w' ⟨rfl, rfl⟩
    go_wp2
    go_ret2
    exact ⟨by rw [HR2.out]; rfl, by rw [HR2.out]; exact H.out, RS8.refl _ _⟩
end
end Go.Proofs.YtmloljjllmmkoaaGreat

