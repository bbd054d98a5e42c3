/-
  A block that is written changes no other one, nor the root, and it tells what was written last: for every list of texts and every list of numbers, of which the first sixty are taken.
  Conditions: none besides the row's own.
-/
import Derived.Test.YthnpdiopaeommaaGreatBlkU
import Derived.Test.YthnpdiopaeommaaGreatBlkV0
import Derived.Test.YthnpdiopaeommaaGreatKitS
import Derived.Test.YthnpdiopaeommaaGreatKitI
import Derived.OwnWalk
import Derived.Deep.CutRange
namespace Go.Proofs.YthnpdiopaeommaaGreat.apart
open Go.ChangeShapes Go.WideShapes Go.ChangeAt Go.RowKit Go

def rootT : ByteArray := ⟨#[114, 111, 111, 116]⟩
theorem and_low (z : Int) : ∃ A : Int, bits .and .i64 z 65535 = A ∧ 0 ≤ A ∧ A ≤ 65535 := by
  refine ⟨_, rfl, ?_⟩
  have h : (BitVec.ofInt 64 z &&& BitVec.ofInt 64 65535).toNat ≤ 65535 := by
    rw [BitVec.toNat_and]
    exact Nat.and_le_right
  show 0 ≤ IntKind.i64.wrap ((BitVec.ofInt 64 z &&& BitVec.ofInt 64 65535).toNat : Int) ∧ IntKind.i64.wrap ((BitVec.ofInt 64 z &&& BitVec.ofInt 64 65535).toNat : Int) ≤ 65535
  rw [IntWalk.i64_in _ (by omega)]
  omega
/-- the law's own lists -/
def hasO (hs : List ByteArray) : Obj := .cells (hs.map Value.string).toArray 9 (0, 0)
def isO (fl : List Bool) : Obj := .cells (fl.map Value.bool).toArray 4 (0, 0)
section
variable {w : World} {p i : Nat} {hs : List ByteArray} {fl : List Bool}
theorem hasO.cell (h : w.heap[p]? = some (hasO hs)) (hi : i < hs.length) : w.cell? ⟨p, i, none⟩ = some (.string hs[i]) := by simp [World.cell?, h, hasO, hi]
theorem hasO.fr (h : w.heap[p]? = some (hasO hs)) (i : Nat) : w.frozen? ⟨p, i, none⟩ = false := by simp [World.frozen?, h, hasO]
theorem hasO.set (h : w.heap[p]? = some (hasO hs)) (s : ByteArray) : (w.setCell ⟨p, i, none⟩ (.string s)).heap[p]? = some (hasO (hs.set i s)) := by
  rw [heap_set h]
  simp only [List.setIfInBounds_toArray, ← List.map_set]
  rfl
theorem isO.cell (h : w.heap[p]? = some (isO fl)) (hi : i < fl.length) : w.cell? ⟨p, i, none⟩ = some (.bool fl[i]) := by simp [World.cell?, h, isO, hi]
theorem isO.fr (h : w.heap[p]? = some (isO fl)) (i : Nat) : w.frozen? ⟨p, i, none⟩ = false := by simp [World.frozen?, h, isO]
theorem isO.set (h : w.heap[p]? = some (isO fl)) (s : Bool) : (w.setCell ⟨p, i, none⟩ (.bool s)).heap[p]? = some (isO (fl.set i s)) := by
  rw [heap_set h]
  simp only [List.setIfInBounds_toArray, ← List.map_set]
  rfl
end
def none256 : List UInt8 := List.replicate 256 0
/-- what the law holds of a volume: each block carries what was written last, or is bare -/
structure Inv (x : VS) (hs : List ByteArray) (fl : List Bool) : Prop where
  sound : Sound x
  arm : x.disk.armed = 0
  text : x.text = rootT
  num : x.num = 1
  len : x.disk.stay.length = 32
  hl : hs.length = 8
  fll : fl.length = 8
  each : ∀ k : Nat, 1 ≤ k → k < 8 → (fl[k]? = some true ∧ ∃ p, hs[k]? = some p ∧ p.size ≤ 240 ∧ Lies x.disk k (frameL p.data.toList)) ∨ (fl[k]? = some false ∧ Lies x.disk k none256)
theorem Inv.has {x : VS} {hs : List ByteArray} {fl : List Bool} (h : Inv x hs fl) {k : Nat} (h1 : 1 ≤ k) (h2 : k < 8) : x.has (k : Int) = true := by
  rw [has_is]
  have : blkN x.disk = 8 := by unfold blkN; rw [h.len]
  omega
theorem Inv.write {x : VS} {hs : List ByteArray} {fl : List Bool} (h : Inv x hs fl) {k : Nat} (h1 : 1 ≤ k) (h2 : k < 8) {p : ByteArray} (hp : p.size ≤ 240) :
    (x.write (k : Int) p).1 = 0 ∧ Inv (x.write (k : Int) p).2 (hs.set k p) (fl.set k true) := by
  have hh := h.has h1 h2
  obtain ⟨c1, c2⟩ := h.sound.write_calm h.arm hh hp
  rcases h.sound.write hh hp with ⟨_, a, b, c, d, e, f⟩ | ⟨e, _⟩
  · refine ⟨c1, a, c2, b.trans h.text, c.trans h.num, by rw [d]; exact h.len, by rw [List.length_set]; exact h.hl, by rw [List.length_set]; exact h.fll, fun j j1 j2 => ?_⟩
    rw [Int.toNat_natCast] at e f
    by_cases ej : j = k
    · subst ej
      exact .inl ⟨by rw [List.getElem?_set_self (by rw [h.fll]; exact h2)], p, by rw [List.getElem?_set_self (by rw [h.hl]; exact h2)], hp, e⟩
    · have hsame : ∀ l, Lies x.disk j l → Lies (x.write (k : Int) p).2.disk j l := fun l hl i hi => by
        rw [f (4 * j + i) (fun t ht => by omega)]
        exact hl i hi
      rcases h.each j j1 j2 with ⟨g1, q, g2, g3, g4⟩ | ⟨g1, g2⟩
      · exact .inl ⟨by rw [List.getElem?_set_ne (by omega)]; exact g1, q, by rw [List.getElem?_set_ne (by omega)]; exact g2, g3, hsame _ g4⟩
      · exact .inr ⟨by rw [List.getElem?_set_ne (by omega)]; exact g1, hsame _ g2⟩
  · rw [c1] at e; cases e
set_option maxRecDepth 100000 in
theorem Inv.read {x : VS} {hs : List ByteArray} {fl : List Bool} (h : Inv x hs fl) {k : Nat} (h1 : 1 ≤ k) (h2 : k < 8) :
    Inv (x.read (k : Int)).2.2 hs fl ∧ ((fl[k]? = some true ∧ (x.read (k : Int)).1 = 0 ∧ hs[k]? = some (x.read (k : Int)).2.1) ∨ (fl[k]? = some false ∧ (x.read (k : Int)).1 = 82)) := by
  have hh := h.has h1 h2
  obtain ⟨a, b, c, d⟩ := h.sound.read_any (k : Int)
  refine ⟨⟨a, by rw [b]; exact h.arm, c.trans h.text, d.trans h.num, by rw [b]; exact h.len, h.hl, h.fll, by rw [b]; exact h.each⟩, ?_⟩
  rcases h.each k h1 h2 with ⟨g1, q, g2, g3, g4⟩ | ⟨g1, g2⟩
  · obtain ⟨e1, e2, _⟩ := h.sound.read hh g3 (by rw [Int.toNat_natCast]; exact g4)
    exact .inl ⟨g1, e1, by rw [e2]; exact g2⟩
  · obtain ⟨e1, _⟩ := h.sound.read_bare hh (l := none256) (by rw [Int.toNat_natCast]; exact g2) (by rw [none256, List.length_replicate]) no_frame
    exact .inr ⟨g1, e1⟩
set_option maxRecDepth 100000 in
theorem inv_new : vformE (fresh (blank 32)) rootT = 0 ∧ Inv (vformX (fresh (blank 32)) rootT) (List.replicate 8 ⟨#[]⟩) (List.replicate 8 false) := by
  obtain ⟨a, b, c, d, e⟩ := format_blank (n := 32) (by omega) (by omega) (t := rootT) (by decide)
  refine ⟨a, b, c, rfl, rfl, d, by simp, by simp, fun k k1 k2 => .inr ⟨by rw [List.getElem?_replicate, if_pos k2], ?_⟩⟩
  exact bare_lies (fun i hi => e _ (by omega) (by omega))
theorem infoS8 : (Tryz.prog.info? 9).map (fun i => (i.zero, i.size, i.bytes)) = some (some (.string ⟨#[]⟩), 1, 16) := by kernel_rfl
theorem infoB8 : (Tryz.prog.info? 4).map (fun i => (i.zero, i.size, i.bytes)) = some (some (.bool false), 1, 1) := by kernel_rfl
theorem make_has (W : World) : (Instr.makeSlice 38 (.int .i64 8) (.int .i64 8)).run Tryz.prog W = .ok (.slice (some ⟨W.heap.size, 0, none⟩) 8 8) (W.alloc (hasO (List.replicate 8 ⟨#[]⟩))) := by
  obtain ⟨i0, hi, hz0, hz1, hz2⟩ := info_parts infoS8
  have h := run_makeSlice (P := Tryz.prog) (w := W) 38 9 i0 (.string ⟨#[]⟩) Tryz.underlying38 hi hz0 .i64 .i64 8 8 (by omega) (by omega) (by rw [hz1]; omega) (by rw [hz2]; omega) (by omega)
  rw [hz1, show madeCells (Value.string ⟨#[]⟩).cells (Int.toNat 8 * 1) = ((List.replicate 8 (⟨#[]⟩ : ByteArray)).map Value.string).toArray by kernel_rfl] at h
  exact h
theorem make_is (W : World) : (Instr.makeSlice 39 (.int .i64 8) (.int .i64 8)).run Tryz.prog W = .ok (.slice (some ⟨W.heap.size, 0, none⟩) 8 8) (W.alloc (isO (List.replicate 8 false))) := by
  obtain ⟨i0, hi, hz0, hz1, hz2⟩ := info_parts infoB8
  have h := run_makeSlice (P := Tryz.prog) (w := W) 39 4 i0 (.bool false) Tryz.underlying39 hi hz0 .i64 .i64 8 8 (by omega) (by omega) (by rw [hz1]; omega) (by rw [hz2]; omega) (by omega)
  rw [hz1, show madeCells (Value.bool false).cells (Int.toNat 8 * 1) = ((List.replicate 8 false).map Value.bool).toArray by kernel_rfl] at h
  exact h
/-- a block of another kind is turned -/
theorem vw_other {w0 w w' : World} {l b g m c p : Nat} {x : VS} {C : Array Value} {e : TypeId} {f : Nat × Nat} (h : VW w0 l b g m c x w) (hs : Stir (· = p) w w') (hp : w.heap[p]? = some (.cells C e f)) (hl : w0.heap.size ≤ p) (h1 : e ≠ 81) (h2 : e ≠ 5) (h3 : e ≠ 73) (h4 : e ≠ 98) (h5 : e ≠ 100) : VW w0 l b g m c x w' := by
  obtain ⟨F, hv⟩ := h.is
  refine ⟨⟨F, hv.stay hs (fun i hi e' => ?_)⟩, h.low, h.over, h.below.trans (hs.below (fun k hk => by subst hk; exact hl) h.below.size)⟩
  subst e'
  rcases vfoot_kinds hv hi hp with k | k | k | k | k
  · exact h1 k
  · exact h2 k
  · exact h3 k
  · exact h4 k
  · exact h5 k
set_option maxRecDepth 100000 in
set_option maxHeartbeats 8000000 in
theorem walk (va : Value) (rs : List ByteArray) (vb : Value) (ns : List Int) (w : World) (hOa : StrsAt w va rs) (hza : rs.length ≤ 140737488351232 ∧ ∀ s ∈ rs, s.size ≤ 140737488351232) (hOb : IntsAt w vb ns) (hzb : ns.length ≤ 140737488351232 ∧ ∀ z ∈ ns, IntOk z) :
    Calls Tryz.prog 5 #[va, vb] w fun r w' => r = .returned (.bool true) ∧ Below w.heap.size w w' := by
  obtain ⟨aa, capa, rfl, ha⟩ := hOa
  obtain ⟨ab, capb, rfl, hb⟩ := hOb
  have HA := Lib.hid ha
  have HBn := Lib.hid hb
  have HZ := Lib.hid hza
  have hza1 := hza.1
  have hzb1 := hzb.1
  have CL := laid_vol 32 rootT ⟨by decide, by decide⟩ (by decide) w
  have CF := fun w => fixed8_any w
  clear ha hza hb hzb
  unfold rootT at CL
  go_enter Tryz.func5, Tryz.ntmps5
  go_wp2_with fail
  refine CL.mono ?_
  rintro e w1 ⟨b, g, m, r, n, p, p2, rfl, hl, hn⟩
  obtain rfl : n = 32 := by omega
  obtain ⟨f0, f1⟩ := inv_new
  have hm0 : (vformD (fresh (blank 32)) rootT).made ≤ 5 := by
    have := (len_vformD (fresh (blank 32)) rootT).2
    have e : (fresh (blank 32)).made = 0 := rfl
    omega
  obtain ⟨l, c, q, rfl, rfl, h1⟩ := hl.vw f0
  have H1 := Lib.hid h1
  have C0 := Lib.hid (And.intro f1 (show (vformX (fresh (blank 32)) rootT).disk.made ≤ 5 from hm0))
  clear hl f0 f1 h1 CL hn hm0
  generalize hx0 : vformX (fresh (blank 32)) rootT = x0 at C0
  have H1' := Lib.hid (show VW w l b g m c x0 w1 by rw [← hx0]; exact H1.out)
  clear H1 hx0
  have MH := fun W => make_has W
  have MI := fun W => make_is W
  generalize List.replicate 8 (⟨#[]⟩ : ByteArray) = hs0 at C0 MH
  generalize List.replicate 8 false = fl0 at C0 MI
  go_upto_region 4 with fail
  go_cut [10, 11] from 33 to 34 (fun vh vi wx => ∃ hp ip, vh = .slice (some ⟨hp, 0, none⟩) 8 8 ∧ vi = .slice (some ⟨ip, 0, none⟩) 8 8 ∧ Hid (VW w l b g m c x0 wx) ∧ Hid (wx.heap[hp]? = some (hasO hs0) ∧ wx.heap[ip]? = some (isO fl0)) ∧ Hid (w.heap.size ≤ hp ∧ w.heap.size ≤ ip))
  case first =>
    have hsz := H1'.out.below.size
    go_region
    · have hB : Below w1.heap.size w1 ((w1.alloc (hasO hs0)).alloc (isO fl0)).drew := (((Below.refl _ w1).alloc (Nat.le_refl _) _).alloc (by simp) _).drew
      go_wp2_with fail
      go_meet
      refine ⟨_, _, rfl, rfl, Lib.hid (H1'.out.later hB), Lib.hid ⟨heap_alloc_old (heap_alloc_new w1 (hasO hs0)) _, ?_⟩, Lib.hid ⟨hsz, by omega⟩⟩
      have := heap_alloc_new (w1.alloc (hasO hs0)) (isO fl0)
      rw [World.size_alloc] at this
      exact this
    · have hB : Below w1.heap.size w1 ((w1.alloc (isO fl0)).alloc (hasO hs0)).drew := (((Below.refl _ w1).alloc (Nat.le_refl _) _).alloc (by simp) _).drew
      go_wp2_with fail
      go_meet
      refine ⟨_, _, rfl, rfl, Lib.hid (H1'.out.later hB), Lib.hid ⟨?_, heap_alloc_old (heap_alloc_new w1 (isO fl0)) _⟩, Lib.hid ⟨by omega, hsz⟩⟩
      have := heap_alloc_new (w1.alloc (isO fl0)) (hasO hs0)
      rw [World.size_alloc] at this
      exact this
  case rest =>
    obtain ⟨hp, ip, rfl, rfl, HW0, HO0, HLow⟩ := hcut
    clear H1' MH MI
    go_wp2
    go_loopw [12] (fun i wr => ∃ (j : Nat) (x : VS) (hs : List ByteArray) (fl : List Bool), j ≤ rs.length ∧ j ≤ 60 ∧ i = .int .i64 j ∧ Hid (VW w l b g m c x wr) ∧ Hid (wr.heap[hp]? = some (hasO hs) ∧ wr.heap[ip]? = some (isO fl)) ∧ Hid (Inv x hs fl ∧ x.disk.made ≤ 5 + 5 * j)) (fun i _ => rs.length - (intOf i).toNat)
    case atStart => exact ⟨0, x0, hs0, fl0, Nat.zero_le _, by omega, rfl, HW0, HO0, Lib.hid ⟨C0.out.1, C0.out.2⟩⟩
    case round =>
      obtain ⟨j, x, hs, fl, hj, hj1, rfl, HW, HO, HG⟩ := hrel
      clear HW0 HO0 C0
      by_cases hlt : j < rs.length ∧ j < ns.length ∧ j < 60
      · obtain ⟨hlt1, hlt2, hlt3⟩ := hlt
        obtain ⟨bb, off, rfl, hb, hc⟩ := HA.out (by rintro rfl; simp at hlt1)
        obtain ⟨bn, offn, rfl, hbn, hcn⟩ := HBn.out (by rintro rfl; simp at hlt2)
        have hji : (j : Int) < (rs.length : Int) := by omega
        have hjn : (j : Int) < (ns.length : Int) := by omega
        have hj2 : (j : Int) < 60 := by omega
        have c1 : wr.cell? ⟨bb, off + j, none⟩ = some (.string rs[j]) := (HW.out.below.cell (p := ⟨bb, off + j, none⟩) hb).trans (hc j hlt1)
        have c2 : wr.cell? ⟨bn, offn + j, none⟩ = some (.int .i64 ns[j]) := (HW.out.below.cell (p := ⟨bn, offn + j, none⟩) hbn).trans (hcn j hlt2)
        have hRs := HZ.out.2 rs[j] (List.getElem_mem hlt1)
        generalize rs[j] = R at *
        generalize ns[j] = Z at *
        obtain ⟨A, hA1, hA2, hA3⟩ := and_low Z
        obtain ⟨M, hM⟩ : ∃ M : Nat, A % 7 = (M : Int) := ⟨(A % 7).toNat, by omega⟩
        have hM2 : A.tmod 7 = (M : Int) := by rw [Int.tmod_eq_emod_of_nonneg hA2, hM]
        obtain ⟨N, hN⟩ : ∃ N : Nat, 1 + (M : Int) = (N : Int) := ⟨1 + M, by omega⟩
        have hN1 : 1 ≤ N := by omega
        have hN8 : N < 8 := by omega
        obtain ⟨k, hk1, hk2, hk3, hk4, _⟩ := cut_to R.size 240 (by omega)
        have hsl : ∀ W, (Instr.slice 9 (.string R) none (some (.int .i64 (k : Int))) none).run Tryz.prog W = .ok (.string (R.extract 0 k)) W := fun W => by
          have := run_slice_string_h (P := Tryz.prog) (w := W) 9 R Tryz.underlying9 .i64 (k : Int) (by omega) (by omega)
          rwa [Int.toNat_natCast] at this
        have hSs : (R.extract 0 k).size ≤ 240 := by rw [ByteArray.size_extract]; omega
        obtain ⟨e1, e2⟩ := HG.out.1.write hN1 hN8 hSs
        have hmy := made_vwrite x (N : Int) (R.extract 0 k)
        have CW := fun W (h : VW w l b g m c x W) => h.write (by have := HG.out.2; omega) (N : Int) ⟨by omega, by omega⟩ (R.extract 0 k) (by omega)
        rw [e1] at CW
        generalize R.extract 0 k = S at *
        generalize (x.write (N : Int) S).2 = y at *
        have HY := Lib.hid (And.intro e2 (show y.disk.made ≤ 5 + 5 * (j + 1) by have := HG.out.2; omega))
        have hNi : (N : Int) < 8 := by omega
        have hNh : N < hs.length := by rw [HG.out.1.hl]; exact hN8
        have hNf : N < fl.length := by rw [HG.out.1.fll]; exact hN8
        clear hc hcn hlt1 hlt2 hlt3 hA2 hA3 e1 e2 hmy hRs hk1 hk2 hSs
        go_wp2
        go_quiet (fail)
        go_wp2_with fail
        refine (CW _ (HW.out.later (below_drewN (Below.refl _ _) _))).mono ?_
        rintro e w2 ⟨rfl, h2, k2⟩
        have H2 := Lib.hid h2
        have O2 := Lib.hid (And.intro (k2.keep (i := hp) HO.out.1 (by decide) (by decide) (by decide) (by decide) (by decide)) (k2.keep (i := ip) HO.out.2 (by decide) (by decide) (by decide) (by decide) (by decide)))
        have hne : ip ≠ hp := fun e => by
          have h1 := O2.out.1
          have h2 := O2.out.2
          rw [e, h1] at h2
          simp at h2
        obtain ⟨w3, hw3⟩ : ∃ w3, w2.setCell ⟨hp, N, none⟩ (.string S) = w3 := ⟨_, rfl⟩
        have hO3a : w3.heap[hp]? = some (hasO (hs.set N S)) := by rw [← hw3]; exact hasO.set O2.out.1 S
        have hO3b : w3.heap[ip]? = some (isO fl) := by rw [← hw3]; exact heap_set_other O2.out.2 hne _
        have hS3 : Stir (· = hp) w2 w3 := by rw [← hw3]; exact (Stir.refl (· = hp) w2).set (.inl rfl) _
        obtain ⟨w4, hw4⟩ : ∃ w4, w3.setCell ⟨ip, N, none⟩ (.bool true) = w4 := ⟨_, rfl⟩
        have hO4a : w4.heap[hp]? = some (hasO (hs.set N S)) := by rw [← hw4]; exact heap_set_other hO3a (fun e => hne e.symm) _
        have hO4b : w4.heap[ip]? = some (isO (fl.set N true)) := by rw [← hw4]; exact isO.set hO3b true
        have hS4 : Stir (· = ip) w3 w4 := by rw [← hw4]; exact (Stir.refl (· = ip) w3).set (.inl rfl) _
        have HW4 := Lib.hid (vw_other (vw_other H2.out hS3 O2.out.1 HLow.out.1 (by decide) (by decide) (by decide) (by decide) (by decide)) hS4 hO3b HLow.out.2 (by decide) (by decide) (by decide) (by decide) (by decide))
        have O4 := Lib.hid (And.intro hO4a hO4b)
        have s0 := hasO.cell O2.out.1 hNh
        have s1 := hasO.fr O2.out.1
        have s2 := isO.cell hO3b hNf
        have s3 := isO.fr hO3b
        clear h2 k2 CW c1 c2 hne hO3a hO3b hS3 hO4a hO4b hS4 HW HO HG hsl
        go_wp2
        go_loopw [15] (fun kv wx => ∃ (kk : Nat) (z : VS), 1 ≤ kk ∧ kk ≤ 8 ∧ kv = .int .i64 kk ∧ Hid (VW w l b g m c z wx) ∧ Hid (wx.heap[hp]? = some (hasO (hs.set N S)) ∧ wx.heap[ip]? = some (isO (fl.set N true))) ∧ Hid (Inv z (hs.set N S) (fl.set N true) ∧ z.disk.made ≤ 5 + 5 * (j + 1))) (fun kv _ => 8 - (intOf kv).toNat)
        case atStart => exact ⟨1, y, Nat.le_refl _, by omega, rfl, HW4, O4, HY⟩
        case round =>
          obtain ⟨kk, z, hkk1, hkk8, rfl, HWz, HOz, HGz⟩ := hrel
          clear HW4 O4 HY s0 s1 s2 s3 H2 O2 hw3 hw4
          by_cases hk8 : kk < 8
          · have hki : (kk : Int) < 8 := by omega
            obtain ⟨r1, r2⟩ := HGz.out.1.read hkk1 hk8
            have hdz : (z.read (kk : Int)).2.2.disk = z.disk := made_vread z _
            have CD := fun W (h : VW w l b g m c z W) => h.read (kk : Int) ⟨by omega, by omega⟩
            have HG2 := Lib.hid (And.intro r1 (show (z.read (kk : Int)).2.2.disk.made ≤ 5 + 5 * (j + 1) by rw [hdz]; exact HGz.out.2))
            generalize (z.read (kk : Int)).2.2 = z2 at *
            generalize (z.read (kk : Int)).2.1 = T at *
            generalize (z.read (kk : Int)).1 = E at *
            generalize hs.set N S = hs2 at *
            generalize fl.set N true = fl2 at *
            have hh8 : kk < hs2.length := by rw [HG2.out.1.hl]; exact hk8
            have hf8 : kk < fl2.length := by rw [HG2.out.1.fll]; exact hk8
            rcases r2 with ⟨q1, q2, q3⟩ | ⟨q1, q2⟩
            · subst q2
              have hfl : fl2[kk] = true := by rw [List.getElem?_eq_getElem hf8] at q1; exact Option.some.inj q1
              have hhs : hs2[kk] = T := by rw [List.getElem?_eq_getElem hh8] at q3; exact Option.some.inj q3
              have hTT : (T.toList == T.toList) = true := by simp
              have hTT2 : (T.toList != T.toList) = false := by simp
              clear r1 q1 q3 hdz
              go_wp2_with fail
              refine (CD _ HWz.out).mono ?_
              rintro e w5 ⟨rfl, h5, k5⟩
              have H5 := Lib.hid h5
              have O5 := Lib.hid (And.intro (k5.keep (i := hp) HOz.out.1 (by decide) (by decide) (by decide) (by decide) (by decide)) (k5.keep (i := ip) HOz.out.2 (by decide) (by decide) (by decide) (by decide) (by decide)))
              have t1 := hasO.cell O5.out.1 hh8
              have t2 := isO.cell O5.out.2 hf8
              rw [hhs] at t1
              rw [hfl] at t2
              clear h5 k5 CD HWz HOz HGz
              go_wp2
              go_roundw
              case rel => exact ⟨kk + 1, z2, by omega, by omega, by go_num, H5, O5, HG2⟩
              case measure => simp [intOf]; omega
            · subst q2
              have hfl : fl2[kk] = false := by rw [List.getElem?_eq_getElem hf8] at q1; exact Option.some.inj q1
              clear r1 q1 hdz
              go_wp2_with fail
              refine (CD _ HWz.out).mono ?_
              rintro e w5 ⟨rfl, h5, k5⟩
              have H5 := Lib.hid h5
              have O5 := Lib.hid (And.intro (k5.keep (i := hp) HOz.out.1 (by decide) (by decide) (by decide) (by decide) (by decide)) (k5.keep (i := ip) HOz.out.2 (by decide) (by decide) (by decide) (by decide) (by decide)))
              have t2 := isO.cell O5.out.2 hf8
              rw [hfl] at t2
              clear h5 k5 CD HWz HOz HGz
              go_wp2
              go_roundw
              case rel => exact ⟨kk + 1, z2, by omega, by omega, by go_num, H5, O5, HG2⟩
              case measure => simp [intOf]; omega
          · have hki : ¬ (kk : Int) < 8 := by omega
            go_wp2
            go_roundw
            case rel => exact ⟨j + 1, z, _, _, by omega, by omega, by go_num, HWz, HOz, HGz⟩
            case measure => simp [intOf]; omega
      · have hlt' : ((j : Int) < (rs.length : Int) ∧ (j : Int) < (ns.length : Int) ∧ ¬ (j : Int) < 60) ∨ ((j : Int) < (rs.length : Int) ∧ ¬ (j : Int) < (ns.length : Int)) ∨ ¬ (j : Int) < (rs.length : Int) := by omega
        have CR := fun W (h : VW w l b g m c x W) => h.root
        rw [HG.out.1.text, HG.out.1.num] at CR
        unfold rootT at CR
        clear hlt HG HO
        rcases hlt' with ⟨hji, hjn, hj2⟩ | ⟨hji, hjn⟩ | hji
        all_goals (
          go_wp2_with fail
          refine (CR _ HW.out).mono ?_
          rintro e w2 ⟨rfl, h2, _⟩
          have H2 := Lib.hid h2
          clear h2 CR
          go_wp2_with fail
          refine (CF _).mono ?_
          rintro e w3 ⟨rfl, hB3⟩
          have HB3 := Lib.hid (H2.out.below.trans (hB3.mono H2.out.below.size))
          clear hB3
          go_wp2
          go_ret
          exact ⟨rfl, HB3.out⟩)
set_option maxRecDepth 100000 in
/-- WHAT THE WALK GIVES, for every argument that can be read. -/
theorem contract (H : Type) (enc : TypeId × Value → H) (W : World) (base : Nat) (args : Array Value) (ds gs : List (DataW H)) (before : List MemPlace)
    (hval : ∀ (j : Nat) t v, Tryz.f5.params[j]? = some t → args[j]? = some v → Value.okWide Tryz.prog W .any base t v)
    (hW : DataW.Whole enc Tryz.prog Tryz.f5.params.toList Rows.blockApartSpec.vars false W args.toList ds gs before)
    (hreach : (DataW.weightsEach Tryz.prog (Tryz.f5.params.toList) ds).all (· ≤ reachBytes) = true) :
    Calls Tryz.prog 5 args W fun e W' => ∃ v, e = .returned v ∧ Rows.blockApartSpec.post enc Tryz.prog Tryz.f5 false true false false W args v W' := by
  have hW' := hW
  obtain ⟨p, q, hA0, hV, rfl, hfz, hnd⟩ := hW
  have hA : DataW.TrodAll enc Tryz.prog W 0 (fun _ => true) true Tryz.f5.params.toList args.toList ds p := hA0
  rw [Tryz.params5] at hA hval hreach
  obtain ⟨v0, v1, d0, d1, p0, p1, rfl, rfl, rfl, h0, h1⟩ := trodAll_two hA
  obtain ⟨rfl, rfl⟩ := trodVars_none hV
  have lt0 : ∀ x ∈ p0, x.block < W.heap.size := fun x hx => hW'.lt x (by simp [hx])
  obtain ⟨l0, k0, r0⟩ := strs_open (hval 0 38 v0 rfl rfl) h0 lt0 hreach (j := 0) rfl rfl
  have lt1 : ∀ x ∈ p1, x.block < W.heap.size := fun x hx => hW'.lt x (by simp [hx])
  obtain ⟨l1, k1, r1⟩ := ints_open (hval 1 51 v1 rfl rfl) h1 lt1 hreach (j := 1) rfl rfl
  clear hA0 hval
  simp only [List.append_nil] at hW'
  refine (walk v0 l0 v1 l1 W k0 r0 k1 r1).mono fun e W' ⟨he, hB⟩ => ?_
  subst he
  exact ⟨_, rfl, post_of_below (pa := p0 ++ (p1)) (pv := []) hW' (fun _ _ _ => trodAll_mk1 (shut_bool Tryz.underlying4 _)) (fun sp hsp => trodAll_mk2 (WideElems.Trod_stays laidOut (by kernel_rfl) (of_decide_eq_true (by kernel_rfl)) h0 (fun x hx => hB.same (lt0 x hx)) (fun x hx => hsp x (by simp [hx]))) (WideElems.Trod_stays laidOut (by kernel_rfl) (of_decide_eq_true (by kernel_rfl)) h1 (fun x hx => hB.same (lt1 x hx)) (fun x hx => hsp x (by simp [hx])))) (fun _ _ => rfl) (by simp) hB (ok_one (by kernel_rfl) rfl (okWide_bool_mk Tryz.underlying4 _))⟩

theorem reads (os : Os) {H : Type} (enc : TypeId × Value → H) : ∃ places, DataW.whole enc Tryz.prog ((laidWorld os).forCall (fun _ _ => 0) ⟨#[], #[.slice none 0 0, .slice none 0 0], []⟩).memory Tryz.f5.params.toList Rows.blockApartSpec.vars false (#[.slice none 0 0, .slice none 0 0] : Array Value).toList 8 = some ([.nil, .nil], [], places) :=
  ⟨[], by kernel_rfl⟩

set_option maxRecDepth 100000 in
theorem lifted (os : Os) (started : os.Started) (H : Type) (enc : TypeId × Value → H) (F : Stop.Interp) :
    ReturnsInHanded {} Tryz.checked os 5 .any ((OpenSpec.ofChange Rows.blockApartSpec).preRow enc Tryz.prog Tryz.f5 Rows.blockApartRow.domain false Rows.blockApartRow.laid) (((OpenSpec.ofChange Rows.blockApartSpec).at F).post enc Tryz.prog Tryz.f5 false true false false) := by
  obtain ⟨places, hx⟩ := reads os enc
  refine returnsInHanded_of_row (C := Tryz.checked) (s := OpenSpec.ofChange Rows.blockApartSpec) own started (by kernel_rfl) Tryz.func5
    (witness_row_at (enc := enc) (C := Tryz.checked) false (laidWorld os) #[.slice none 0 0, .slice none 0 0] rfl (by kernel_rfl) (by kernel_rfl) (by kernel_rfl)
      (OpenSpec.preRow_of_cond 8 hx (by kernel_rfl) (fun k hk => by cases hk) (by kernel_rfl) (laid_met os _))) ?_
  intro W base args ds gs before hval hW _ hcond hreach hL _ _
  obtain ⟨p, q, hA0, hV, hpq, hfz, hnd⟩ := id hW
  obtain ⟨rfl, _⟩ := trodVars_none hV
  rw [List.append_nil] at hreach
  exact contract H enc W base args ds [] before hval hW hreach

theorem said : Rows.BlockApartSaid :=
  OpenClaim.holds_of_cond 5 Tryz.f5 rfl rfl rfl rfl rfl rfl rfl ⟨rfl, rfl, rfl, rfl, rfl⟩ rfl rfl rfl rfl rfl (by kernel_rfl) Tryz.func5 (by kernel_rfl)
    (of_decide_eq_true (by kernel_rfl)) (by unfold Func.isWrapper; first | (rw [if_pos (by decide +kernel)]; kernel_rfl) | (rw [if_neg (by decide +kernel)]; exact ⟨rfl, rfl⟩))
    (fun os started H enc _ F => by rw [OpenClaim.pre_eq_preRow]; exact lifted os started H enc F)



end Go.Proofs.YthnpdiopaeommaaGreat.apart

