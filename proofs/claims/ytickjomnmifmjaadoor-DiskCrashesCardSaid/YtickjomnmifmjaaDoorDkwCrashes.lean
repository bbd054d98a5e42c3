/-
  Behind a crash, whatever is chosen, each sector is what it was at the last Sync, or what was written last; of nothing chosen all are what they were; of all chosen all are what was written last: for every number of sectors (cut to 1 to 40), every list of calls, of which the first two hundred are done, and every set.
  Conditions: none besides the row's own.
-/
import Derived.Test.YtickjomnmifmjaaDoorDskR
import Derived.Deep.RegionHeld3
import Derived.Deep.QuietTactic
import Derived.BigQuiet
namespace Go.Proofs.YtickjomnmifmjaaDoor.crashes
open Go.ChangeShapes Go.WideShapes Go.ChangeAt Go.RowKit Go Go.Maps SM

/-! ### What each disk tells -/
theorem len_le : ∀ (n : Nat) (l : List Nat), l.Nodup → (∀ x ∈ l, x < n) → l.length ≤ n
  | 0, [], _, _ => Nat.le_refl _
  | 0, x :: r, _, h => by have := h x (by simp); omega
  | n + 1, l, hd, h => by
    have h1 := len_le n (l.erase n) (hd.erase n) (fun x hx => by
      have := (hd.mem_erase_iff).1 hx
      have := h x this.2
      omega)
    have h2 := List.length_erase (a := n) (l := l)
    split at h2 <;> omega
section
variable {n k : Nat} {s : DS}
theorem few (h : Calm n k s) : s.loose.length ≤ n := by
  have hk := h.ok.key
  have e : (s.loose.map fun q => q.1.toNat).length = s.loose.length := List.length_map ..
  rw [← e]
  refine len_le n _ ?_ (fun x hx => ?_)
  · have hnd := h.ok.nd
    rw [List.nodup_iff_pairwise_ne, List.pairwise_map] at hnd
    rw [List.nodup_iff_pairwise_ne, List.pairwise_map]
    refine hnd.imp_of_mem (fun {a c} ha hc hne => ?_)
    have h1 := (hk a ha).1
    have h2 := (hk c hc).1
    omega
  · obtain ⟨q, hq, rfl⟩ := List.mem_map.1 hx
    have := hk q hq
    rw [h.len] at this
    omega
def looks (s : DS) (n : Nat) : List ByteArray := (List.range n).map fun i : Nat => s.look (i : Int)
theorem looks_snoc (s : DS) (k : Nat) : looks s (k + 1) = looks s k ++ [s.look (k : Int)] := by simp [looks, List.range_succ]
theorem looks_len (s : DS) (n : Nat) : (looks s n).length = n := by simp [looks]
theorem looks_size (h : Calm n k s) {j : Nat} (hj : j ≤ n) : ∀ x ∈ looks s j, x.size = 64 := by
  intro x hx
  obtain ⟨i, hi, rfl⟩ := List.mem_map.1 hx
  have := List.mem_range.1 hi
  exact h.ok.look_size (by omega) (by rw [h.len]; omega)
theorem img_snoc (l : List ByteArray) (x : ByteArray) : img (l ++ [x]) = img l ++ x := by
  apply ByteArray.ext
  apply Array.toList_inj.1
  simp [img, flat_append, flat_cons, flat_nil, ByteArray.data_append]
theorem laid_at (f : Nat → Bool) (s : DS) {i : Nat} (hi : i < s.stay.length) : (laid f s.loose s.stay)[i]'(by rw [length_laid]; exact hi) = if (∃ z, seek (i : Int) s.loose 0 = some z ∧ f z.1 = true) then s.look i else s.stay[i] := by
  rw [get_laid _ _ _ _ hi]
  unfold DS.look
  cases hs : seek (i : Int) s.loose 0 with
  | none => simp
  | some z =>
    cases hf : f z.1 with
    | true => simp [hf]
    | false => simp [hf]
theorem look_stay (s : DS) {i : Nat} (hi : i < s.stay.length) (h : seek (i : Int) s.loose 0 = none) : s.look i = s.stay[i] := by
  unfold DS.look
  rw [h]
  simp [hi]
def full : ByteArray := ⟨#[255, 255, 255, 255, 255]⟩
theorem full_all : ∀ p : Fin 40, keepsAt full p.val = true := by decide +kernel
theorem all_is (h : Calm n k s) (hn : n ≤ 40) : (s.crash full).stay = looks s n := by
  rw [h.crash_is]
  show laid (keepsAt full) s.loose s.stay = looks s n
  apply List.ext_getElem (by rw [length_laid, looks_len, h.len])
  intro i h1 h2
  have hi : i < s.stay.length := by rw [length_laid] at h1; exact h1
  rw [laid_at _ _ hi]
  have e : (looks s n)[i] = s.look (i : Int) := by simp [looks]
  rw [e]
  cases hs : seek (i : Int) s.loose 0 with
  | none => rw [if_neg (by simp), look_stay s hi hs]
  | some z =>
    obtain ⟨j, hj, e1, _⟩ := seek_some hs
    have := few h
    rw [if_pos ⟨z, rfl, by have := full_all ⟨z.1, by omega⟩; exact this⟩]
theorem none_is (h : Calm n k s) : (s.crash none0).stay = s.stay := by
  rw [h.crash_is]
  show laid (keepsAt none0) s.loose s.stay = s.stay
  rw [laid_congr (g := fun _ => false) (fun p _ => by simp [keepsAt, bitI, none0, bit, gd]), laid_none]
theorem one_of (h : Calm n k s) (keep : ByteArray) {i : Nat} (hi : i < n) : (img (s.crash keep).stay).extract (64 * i) (64 * i + 64) = (img s.stay).extract (64 * i) (64 * i + 64) ∨ (img (s.crash keep).stay).extract (64 * i) (64 * i + 64) = (img (looks s n)).extract (64 * i) (64 * i + 64) := by
  have hc := h.ok.crash keep
  have hl : (s.crash keep).stay.length = s.stay.length := by rw [h.crash_is]; exact length_laid _ _ _
  have hi' : i < s.stay.length := by rw [h.len]; exact hi
  rw [img_part hc.sz (by omega), img_part h.ok.sz hi', img_part (looks_size h (Nat.le_refl _)) (by rw [looks_len]; exact hi)]
  have e0 : (s.crash keep).stay[i]'(by omega) = (laid (keepsAt keep) s.loose s.stay)[i]'(by rw [length_laid]; exact hi') := by
    have : (s.crash keep).stay = laid (keepsAt keep) s.loose s.stay := by rw [h.crash_is]; rfl
    simp only [this]
  have e1 : (looks s n)[i]'(by rw [looks_len]; exact hi) = s.look (i : Int) := by simp [looks]
  rw [e0, e1, laid_at _ _ hi']
  split
  · exact .inr rfl
  · exact .inl rfl
end
/-- two disks that share no block -/
def Far (b g m b' g' m' : Nat) : Prop := ∀ i, Foot b g m i → ¬ Foot b' g' m' i
theorem far_of {b g m b' g' m' : Nat} {s : DS} {w : World} (h : DiskAt b g m s w) (o : Over w.heap.size b' g' m') : Far b g m b' g' m' ∧ Far b' g' m' b g m :=
  ⟨fun i hi hj => by have := h.lt hi; have := o.foot i hj; omega, fun i hi hj => by have := h.lt hj; have := o.foot i hi; omega⟩
theorem op_cells {w : World} {o : Nat} {K j y mo : Int} {kp : ByteArray} {bd : Bool} (h : w.heap[o]? = some (.cells #[.int .i64 K, .int .i64 j, .int .u8 y, .int .i64 mo, .string kp, .bool bd] 37 (0, 0))) :
    w.cell? ⟨o, 1, none⟩ = some (.int .i64 j) ∧ w.cell? ⟨o, 2, none⟩ = some (.int .u8 y) ∧ w.cell? ⟨o, 3, none⟩ = some (.int .i64 mo) := by simp [World.cell?, h]

set_option maxRecDepth 100000 in
set_option maxHeartbeats 4000000 in
theorem walk (n0 : Int) (va : Value) (l : List (Int × Int × Int × Int × ByteArray × Bool)) (keep : ByteArray) (w : World) (_r0 : IntOk n0) (hO : OpsAt w va l) (hl : OpsOk l) (hkp : keep.size ≤ 140737488351232) :
    Calls Tryd.prog 5 #[.int .i64 n0, va, .string keep] w fun r w' => r = .returned (.bool true) ∧ Below w.heap.size w w' := by
  obtain ⟨aa, capa, rfl, ha⟩ := hO
  have HA := Lib.hid ha
  have hl1 := hl.1
  have HL := Lib.hid hl.2
  obtain ⟨P, n, ⟨p1, p2, p3⟩, ⟨q1, q2, q3⟩, hn1, hn2⟩ := clampN n0
  have HN := Lib.hid (And.intro hn1 hn2)
  have hkp2 : keep.size ≤ 140737488355328 := by omega
  have N1 := fun w => new_yes n hn1 (by omega) w
  clear ha hl hn1 hn2 hkp
  go_enter Tryd.func5, Tryd.ntmps5
  go_wp2_with fail
  refine (N1 _).mono ?_
  rintro e w1 ⟨b, g, m, rfl, h1, ho, hB1⟩
  have H1 := Lib.hid h1
  have HO := Lib.hid (show Over w.heap.size b g m from ho)
  have HB1 := Lib.hid hB1
  clear h1 ho hB1 N1 p1 p2 p3 q1 q2 q3
  go_wp2_with fail
  go_loopw [10] (fun i wr => ∃ (k : Nat) (s : DS), k ≤ l.length ∧ k ≤ 200 ∧ i = .int .i64 k ∧ Calm n k s ∧ DiskAt b g m s wr ∧ Below w.heap.size w wr) (fun i _ => 200 - (intOf i).toNat)
  case atStart => exact ⟨0, _, Nat.zero_le _, Nat.zero_le _, rfl, calm_fresh HN.out.1 (by have := HN.out.2; omega), H1.out, HB1.out⟩
  case round =>
    obtain ⟨k, s, hk1, hk2, rfl, hc, hd, hB⟩ := hrel
    have HC := Lib.hid hc
    have HD := Lib.hid hd
    have HB := Lib.hid hB
    clear hc hd hB H1 HB1
    by_cases hlt : k < l.length ∧ k < 200
    · obtain ⟨t1, t2⟩ := hlt
      obtain ⟨ba, off, rfl, hba, hcells⟩ := HA.out (by intro e; rw [e] at t1; simp at t1)
      obtain ⟨c0, c1, c2, c3, c4, c5⟩ := hcells k t1
      obtain ⟨-, z1, z2, -⟩ := HL.out _ (List.getElem_mem t1)
      generalize l[k].1 = K at c0
      generalize l[k].2.1 = j at c1 z1
      generalize l[k].2.2.1 = y at c2 z2
      generalize l[k].2.2.2.1 = mo at c3
      generalize l[k].2.2.2.2.1 = kp at c4
      generalize l[k].2.2.2.2.2 = bd at c5
      have HK := Lib.hid (And.intro t1 t2)
      have old : ∀ i, wr.cell? ⟨ba, i, none⟩ = w.cell? ⟨ba, i, none⟩ := fun i => HB.out.cell (p := ⟨ba, i, none⟩) hba
      rw [← old] at c0 c1 c2 c3 c4 c5
      obtain ⟨w2, hw2⟩ : ∃ w2, wr.alloc (.cells #[.int .i64 K, .int .i64 j, .int .u8 y, .int .i64 mo, .string kp, .bool bd] 37) = w2 := ⟨_, rfl⟩
      have hB2 : Below wr.heap.size wr w2 := by rw [← hw2]; exact (Below.refl _ wr).alloc (Nat.le_refl _) _
      have Q1 := Lib.hid (show w2.heap[wr.heap.size]? = some (.cells #[.int .i64 K, .int .i64 j, .int .u8 y, .int .i64 mo, .string kp, .bool bd] 37 (0, 0)) by rw [← hw2]; exact heap_alloc_new wr _)
      have q0 : w2.cell? ⟨wr.heap.size, 0, none⟩ = some (.int .i64 K) := by simp [World.cell?, Q1.out]
      have HB2 := Lib.hid (HB.out.trans (hB2.mono HB.out.size))
      have HD2 := Lib.hid (HD.out.below hB2)
      have HB2d := Lib.hid (show Below w.heap.size w w2.drew from HB2.out.drew)
      have HD2d := Lib.hid (show DiskAt b g m s w2.drew from HD2.out.below (Below.refl _ _).drew)
      have Q2 := Lib.hid (show w2.drew.heap[wr.heap.size]? = _ from Q1.out)
      obtain ⟨a1, a2, a3⟩ := op_cells Q2.out
      have e1 : (k : Int) < (l.length : Int) := by omega
      have e2 : (k : Int) < 200 := by omega
      clear old hcells hk1 hk2 t1 t2 hB2
      by_cases hK1 : K = 1
      · have hK' : (K == 1) = true := by simp [hK1]
        clear hK1
        as_aux_lemma =>
          go_wp2_with fail
          go_region_held3 (fun w' => w'.cell? ⟨wr.heap.size, 1, none⟩ = some (.int .i64 j) ∧ w'.cell? ⟨wr.heap.size, 2, none⟩ = some (.int .u8 y) ∧ w'.cell? ⟨wr.heap.size, 3, none⟩ = some (.int .i64 mo))
            (first | exact ⟨a1, a2, a3⟩ | exact ⟨b1, b2, b3⟩ | exact ⟨d1, d2, d3⟩)
            (first
              | (go_at_call 21; refine (sector_int y z2 mo _).mono ?_; rintro e w4 ⟨rfl, hB4⟩; have HD4 := Lib.hid (HD2d.out.below hB4); have HB4 := Lib.hid (HB2d.out.trans (hB4.mono HB2d.out.size)); have Q4 := Lib.hid (keeps_of hB4 Q2.out); obtain ⟨b1, b2, b3⟩ := op_cells Q4.out; clear hB4)
              | (go_at_call 20; refine (write_any HD4.out (by have := HC.out.made; have := HK.out; omega) j z1 _).mono ?_; rintro e w5 ⟨rfl, hd5, hs5⟩; have Q5 := Lib.hid (hs5.keep Q4.out (HD4.out.not_cells Q4.out (by decide) (by decide))); obtain ⟨d1, d2, d3⟩ := op_cells Q5.out; have HD5 := Lib.hid hd5; have HB5 := Lib.hid (step_below HB4.out hs5 HO.out HB4.out.size); clear hd5 hs5))
          all_goals (
            clear a1 a2 a3 b1 b2 b3 d1 d2 d3
            go_wp2_with fail
            go_roundw
            case rel => exact ⟨k + 1, _, by have := HK.out; omega, by have := HK.out; omega, by go_num, HC.out.write j _, HD5.out, HB5.out⟩
            case measure => have := HK.out; simp [intOf]; omega)
      · have hK' : (K == 1) = false := by simp [hK1]
        clear hK1 a1 a2 a3
        by_cases hK2 : K = 2
        · have hK3 : (K == 2) = true := by simp [hK2]
          have C := sync_any HD2.out (by have := HC.out.made; have := HK.out; omega)
          clear hK2
          as_aux_lemma =>
            go_wp2_with fail
            refine C.mono ?_
            rintro e w5 ⟨rfl, hd5, hs5⟩
            have HD5 := Lib.hid hd5
            have HB5 := Lib.hid (step_below HB2.out hs5 HO.out HB2.out.size)
            clear hd5 hs5 C
            go_wp2_with fail
            go_roundw
            case rel => exact ⟨k + 1, _, by have := HK.out; omega, by have := HK.out; omega, by go_num, HC.out.sync, HD5.out, HB5.out⟩
            case measure => have := HK.out; simp [intOf]; omega
        · have hK3 : (K == 2) = false := by simp [hK2]
          clear hK2
          as_aux_lemma =>
            go_wp2_with fail
            go_roundw
            case rel => exact ⟨k + 1, _, by have := HK.out; omega, by have := HK.out; omega, by go_num, HC.out.mono (by omega), HD2.out, HB2.out⟩
            case measure => have := HK.out; simp [intOf]; omega
    · have hcase : ¬ ((k : Int) < (l.length : Int)) ∨ ((k : Int) < (l.length : Int) ∧ ¬ (k : Int) < 200) := by omega
      have hn40 := HN.out.2
      have hm := HC.out.made
      have C1 := image_any HD.out
      have I1 : (img s.stay).size = 64 * n := by rw [size_img HC.out.ok.sz, HC.out.len]
      have I2 : (img (looks s n)).size = 64 * n := by rw [size_img (looks_size HC.out (Nat.le_refl _)), looks_len]
      have I3 : (img (s.crash keep).stay).size = 64 * n := by rw [size_img (HC.out.ok.crash keep).sz, HC.out.crash_is]; show 64 * (laid _ s.loose s.stay).length = _; rw [length_laid, HC.out.len]
      have R : ∀ (i : Nat) W, i < n → DiskAt b g m s W → Calls Tryd.prog 18 #[.pointer (some ⟨b, 0, none⟩), .int .i64 i] W fun e w' => e = .returned (.tuple #[.string (s.look i), .int .i64 0]) ∧ Below W.heap.size W w' := fun i W hi h => by
        have := read_any h (i : Int) ⟨by omega, by omega⟩
        rw [HC.out.readE_is (by omega) (by omega), HC.out.readS_is (by omega) (by omega)] at this
        exact this
      have K : ∀ {b' g' m' : Nat} (kp : ByteArray) W, kp.size ≤ 140737488355328 → DiskAt b' g' m' s W → Calls Tryd.prog 29 #[.pointer (some ⟨b', 0, none⟩), .string kp] W fun e w' => e = .returned (.int .i64 0) ∧ DiskAt b' g' m' (s.crash kp) w' ∧ Stir (Foot b' g' m') W w' := fun kp W hkp h => by
        have := crash_any h (by omega) hkp
        rw [HC.out.crashE_is] at this
        exact this
      have J1 : ∀ {b' g' m' : Nat} W, DiskAt b' g' m' (s.crash none0) W → Calls Tryd.prog 34 #[.pointer (some ⟨b', 0, none⟩)] W fun e w' => e = .returned (.string (img s.stay)) ∧ W = w' := fun W h => by
        have := image_any h
        rw [none_is HC.out] at this
        exact this
      have J2 : ∀ {b' g' m' : Nat} W, DiskAt b' g' m' (s.crash full) W → Calls Tryd.prog 34 #[.pointer (some ⟨b', 0, none⟩)] W fun e w' => e = .returned (.string (img (looks s n))) ∧ W = w' := fun W h => by
        have := image_any h
        rw [all_is HC.out hn40] at this
        exact this
      have hone := fun i (hi : i < n) => one_of HC.out keep hi
      have HI := Lib.hid (And.intro I1 (And.intro I2 I3))
      have HE := Lib.hid hone
      clear hlt hk1 hk2 hm I1 I2 I3 hone
      rcases hcase with hge | ⟨hlt1, hge⟩
      all_goals (
        go_wp2_with fail
        refine C1.mono ?_
        rintro e w' ⟨rfl, rfl⟩
        go_wp2_with fail
        clear hge C1
        go_loopw [13, 14] (fun v i wr => ∃ k : Nat, k ≤ n ∧ i = .int .i64 k ∧ v = .string (img (looks s k)) ∧ DiskAt b g m s wr ∧ Below w.heap.size w wr) (fun _ i _ => n - (intOf i).toNat)
        case atStart => exact ⟨0, Nat.zero_le _, rfl, rfl, HD.out, HB.out⟩
        case round =>
          obtain ⟨j, hj, rfl, rfl, hd, hB⟩ := hrel
          have HD := Lib.hid hd
          have HB := Lib.hid hB
          clear hd hB
          by_cases hjn : j < n
          · have C := R j _ hjn HD.out
            have s1 : (img (looks s j)).size ≤ 2560 := by rw [size_img (looks_size HC.out hj), looks_len]; omega
            have s2 : (s.look j).size ≤ 64 := by have := HC.out.ok.look_size (n := j) (by omega) (by rw [HC.out.len]; omega); omega
            have hsn := img_snoc (looks s j) (s.look j)
            rw [← looks_snoc] at hsn
            have HS := Lib.hid hsn
            clear hsn
            generalize img (looks s j) = U at s1 HS
            generalize s.look (j : Int) = x at C s2 HS
            go_wp2_with fail
            refine C.mono ?_
            rintro e w5 ⟨rfl, hB5⟩
            have HD5 := Lib.hid (HD.out.below hB5)
            have HB5 := Lib.hid (HB.out.trans (hB5.mono HB.out.size))
            clear hB5 C
            go_wp2
            go_roundw
            case rel => exact ⟨j + 1, by omega, by go_num, by rw [HS.out], HD5.out, HB5.out⟩
            case measure => simp [intOf]; omega
          · obtain rfl : n = j := by omega
            obtain ⟨A, hA⟩ : ∃ A, img s.stay = A := ⟨_, rfl⟩
            obtain ⟨Z, hZ⟩ : ∃ Z, img (looks s n) = Z := ⟨_, rfl⟩
            obtain ⟨S, hS⟩ : ∃ S, img (s.crash keep).stay = S := ⟨_, rfl⟩
            rw [hA] at J1
            rw [hZ] at J2
            have HIX := Lib.hid (show A.size = 64 * n ∧ Z.size = 64 * n ∧ S.size = 64 * n by rw [← hA, ← hZ, ← hS]; exact HI.out)
            have HEX := Lib.hid (show ∀ i, i < n → S.extract (64 * i) (64 * i + 64) = A.extract (64 * i) (64 * i + 64) ∨ S.extract (64 * i) (64 * i + 64) = Z.extract (64 * i) (64 * i + 64) by rw [← hA, ← hZ, ← hS]; exact HE.out)
            have J3 : ∀ W, DiskAt b g m (s.crash keep) W → Calls Tryd.prog 34 #[.pointer (some ⟨b, 0, none⟩)] W fun e w' => e = .returned (.string S) ∧ W = w' := fun W h => by
              have := image_any h
              rw [hS] at this
              exact this
            rw [hA, hZ]
            clear hA hZ hS HI HE R hjn
            go_wp2_with fail
            refine (clone_any' HD.out).mono ?_
            rintro e w5 ⟨b2, g2, m2, rfl, hd2, ho2, hB5⟩
            have F2 := Lib.hid (far_of HD.out (show Over wr.heap.size b2 g2 m2 from ho2))
            have O2 := Lib.hid (show Over w.heap.size b2 g2 m2 from ⟨Nat.le_trans HB.out.size ho2.1, Nat.le_trans HB.out.size ho2.2.1, Nat.le_trans HB.out.size ho2.2.2⟩)
            have HD5 := Lib.hid (HD.out.below hB5)
            have HN5 := Lib.hid hd2
            have HB5 := Lib.hid (HB.out.trans (hB5.mono HB.out.size))
            clear hd2 ho2 hB5
            go_wp2_with fail
            refine (clone_any' HD5.out).mono ?_
            rintro e w6 ⟨b3, g3, m3, rfl, hd3, ho3, hB6⟩
            have F3 := Lib.hid (far_of HD5.out (show Over w5.heap.size b3 g3 m3 from ho3))
            have F4 := Lib.hid (far_of HN5.out (show Over w5.heap.size b3 g3 m3 from ho3))
            have O3 := Lib.hid (show Over w.heap.size b3 g3 m3 from ⟨Nat.le_trans HB5.out.size ho3.1, Nat.le_trans HB5.out.size ho3.2.1, Nat.le_trans HB5.out.size ho3.2.2⟩)
            have HD6 := Lib.hid (HD5.out.below hB6)
            have HN6 := Lib.hid (HN5.out.below hB6)
            have HA6 := Lib.hid hd3
            have HB6 := Lib.hid (HB5.out.trans (hB6.mono HB5.out.size))
            clear hd3 ho3 hB6
            go_wp2_with fail
            refine (K keep _ hkp2 HD6.out).mono ?_
            rintro e w7 ⟨rfl, hd, hs⟩
            have HD7 := Lib.hid hd
            have HN7 := Lib.hid (HN6.out.stay hs F2.out.2)
            have HA7 := Lib.hid (HA6.out.stay hs F3.out.2)
            have HB7 := Lib.hid (step_below HB6.out hs HO.out HB6.out.size)
            clear hd hs
            go_wp2_with fail
            refine (K none0 _ (by decide) HN7.out).mono ?_
            rintro e w8 ⟨rfl, hd, hs⟩
            have HN8 := Lib.hid hd
            have HD8 := Lib.hid (HD7.out.stay hs F2.out.1)
            have HA8 := Lib.hid (HA7.out.stay hs F4.out.2)
            have HB8 := Lib.hid (step_below HB7.out hs O2.out HB7.out.size)
            clear hd hs
            obtain ⟨w9, hw9⟩ : ∃ w9, w8.alloc (.cells #[.int .u8 255, .int .u8 255, .int .u8 255, .int .u8 255, .int .u8 255] 5) = w9 := ⟨_, rfl⟩
            have hB9 : Below w8.heap.size w8 w9 := by rw [← hw9]; exact (Below.refl _ w8).alloc (Nat.le_refl _) _
            have q9 : w9.heap[w8.heap.size]? = some (.cells #[.int .u8 255, .int .u8 255, .int .u8 255, .int .u8 255, .int .u8 255] 5 (0, 0)) := by rw [← hw9]; exact heap_alloc_new w8 _
            have hcv : (convert 26 9 (.slice (some ⟨w8.heap.size, 0, none⟩) 5 5)).run Tryd.prog w9 = .ok (.string full) w9 :=
              run_convert_bytes_back w9 26 9 5 ⟨w8.heap.size, 0, none⟩ 5 [255, 255, 255, 255, 255] Tryd.underlying26 Tryd.underlying5 Tryd.underlying9 (fun j hj => by
                rw [Addr.add_lit, Nat.zero_add]
                have : j = 0 ∨ j = 1 ∨ j = 2 ∨ j = 3 ∨ j = 4 := by simp at hj; omega
                rcases this with rfl | rfl | rfl | rfl | rfl <;> simp [World.cell?, q9])
            have HD9 := Lib.hid (HD8.out.below hB9)
            have HN9 := Lib.hid (HN8.out.below hB9)
            have HA9 := Lib.hid (HA8.out.below hB9)
            have HB9 := Lib.hid (HB8.out.trans (hB9.mono HB8.out.size))
            clear hB9 q9
            go_wp2_with fail
            refine (K full _ (by decide) HA9.out).mono ?_
            rintro e w10 ⟨rfl, hd, hs⟩
            have HA10 := Lib.hid hd
            have HD10 := Lib.hid (HD9.out.stay hs F3.out.1)
            have HN10 := Lib.hid (HN9.out.stay hs F4.out.1)
            have HB10 := Lib.hid (step_below HB9.out hs O3.out HB9.out.size)
            clear hd hs hcv hw9 K
            go_wp2_with fail
            refine (J3 _ HD10.out).mono ?_
            rintro e w' ⟨rfl, rfl⟩
            obtain ⟨y1, y2, y3⟩ := HIX.out
            have y4 : (S.size : Int) = 64 * (n : Int) := by omega
            have y5 : (A.size : Int) = 64 * (n : Int) := by omega
            have y6 : (Z.size : Int) = 64 * (n : Int) := by omega
            clear y1 y2 y3
            go_wp2_with fail
            refine (J1 _ HN10.out).mono ?_
            rintro e w' ⟨rfl, rfl⟩
            go_wp2_with fail
            refine (J2 _ HA10.out).mono ?_
            rintro e w' ⟨rfl, rfl⟩
            go_wp2_with fail
            go_loopw [20] (fun i wr => ∃ j : Nat, j ≤ n ∧ i = .int .i64 (64 * (j : Int)) ∧ Below w.heap.size w wr) (fun i _ => 64 * n - (intOf i).toNat)
            case atStart => exact ⟨0, Nat.zero_le _, rfl, HB10.out⟩
            case round =>
              obtain ⟨j, hj, rfl, hB⟩ := hrel
              have HB := Lib.hid hB
              clear hB
              by_cases hjn : j < n
              · have h1 := fun W => part_run W S j (by have := HIX.out; omega)
                have h2 := fun W => part_run W A j (by have := HIX.out; omega)
                have h3 := fun W => part_run W Z j (by have := HIX.out; omega)
                have h4 := HEX.out j hjn
                have h5 : 64 * (j : Int) < 64 * (n : Int) := by omega
                clear J1 J2 J3
                generalize S.extract (64 * j) (64 * j + 64) = XS at h1 h4
                generalize A.extract (64 * j) (64 * j + 64) = XA at h2 h4
                generalize Z.extract (64 * j) (64 * j + 64) = XZ at h3 h4
                have h6 : XS = XA ∨ (XS = XZ ∧ XZ ≠ XA) := by
                  rcases h4 with h | h
                  · exact .inl h
                  · by_cases e : XZ = XA
                    · exact .inl (h.trans e)
                    · exact .inr ⟨h, e⟩
                clear h4
                have hj1 : (64 * (j : Int)) + 64 = 64 * ((j + 1 : Nat) : Int) := by omega
                have HJ := Lib.hid hj1
                clear hj1
                rcases h6 with h6 | ⟨h6, h7⟩
                · subst h6
                  go_wp2_with fail
                  go_quiet (fail)
                  go_wp2
                  go_roundw
                  case rel => exact ⟨j + 1, by omega, by rw [← HJ.out], below_drewN HB.out _⟩
                  case measure => simp [intOf]; omega
                · subst h6
                  obtain ⟨h9, h8⟩ := texts_ne h7
                  go_wp2_with fail
                  go_quiet (fail)
                  go_wp2
                  go_roundw
                  case rel => exact ⟨j + 1, by omega, by rw [← HJ.out], below_drewN HB.out _⟩
                  case measure => simp [intOf]; omega
              · have h5 : ¬ 64 * (j : Int) < 64 * (n : Int) := by omega
                go_wp2_with fail
                refine (fixed_any _).mono ?_
                rintro e w11 ⟨rfl, hB11⟩
                have HB11 := Lib.hid (HB.out.trans (hB11.mono HB.out.size))
                clear hB11
                go_wp2
                go_ret
                exact ⟨rfl, HB11.out⟩)
set_option maxRecDepth 100000 in
/-- WHAT THE WALK GIVES, for every argument that can be read. -/
theorem contract (H : Type) (enc : TypeId × Value → H) (W : World) (base : Nat) (args : Array Value) (ds gs : List (DataW H)) (before : List MemPlace)
    (hval : ∀ (j : Nat) t v, Tryd.f5.params[j]? = some t → args[j]? = some v → Value.okWide Tryd.prog W .any base t v)
    (hW : DataW.Whole enc Tryd.prog Tryd.f5.params.toList Rows.diskCrashesSpec.vars false W args.toList ds gs before)
    (hreach : (DataW.weightsEach Tryd.prog (Tryd.f5.params.toList) ds).all (· ≤ reachBytes) = true) :
    Calls Tryd.prog 5 args W fun e W' => ∃ v, e = .returned v ∧ Rows.diskCrashesSpec.post enc Tryd.prog Tryd.f5 false true false false W args v W' := by
  have hW' := hW
  obtain ⟨p, q, hA0, hV, rfl, hfz, hnd⟩ := hW
  have hA : DataW.TrodAll enc Tryd.prog W 0 (fun _ => true) true Tryd.f5.params.toList args.toList ds p := hA0
  rw [Tryd.params5] at hA hval hreach
  obtain ⟨v0, v1, v2, d0, d1, d2, p0, p1, p2, rfl, rfl, rfl, h0, h1, h2⟩ := trodAll_three hA
  obtain ⟨rfl, rfl⟩ := trodVars_none hV
  obtain ⟨n0, rfl, rfl, rfl, wn0⟩ := open_int Tryd.underlying3 (hval 0 3 v0 rfl rfl) h0
  have r0 := int_range wn0
  obtain ⟨s2, rfl, rfl, rfl, ws2⟩ := Go.ChangeMaps.open_string Tryd.underlying9 (hval 2 9 v2 rfl rfl) h2
  have r2 := reach_size (sized_string hreach (j := 2) rfl rfl)
  have lt1 : ∀ x ∈ p1, x.block < W.heap.size := fun x hx => hW'.lt x (by simp [hx])
  obtain ⟨l1, k1, r1⟩ := ops_open (hval 1 35 v1 rfl rfl) h1 lt1 hreach (j := 1) rfl rfl
  clear hA0 hval
  simp only [List.append_nil] at hW'
  refine (walk n0 v1 l1 s2 W r0 k1 r1 r2).mono fun e W' ⟨he, hB⟩ => ?_
  subst he
  exact ⟨_, rfl, post_of_below (pa := [] ++ (p1 ++ ([]))) (pv := []) hW' (fun _ _ _ => trodAll_mk1 (shut_bool Tryd.underlying4 _)) (fun sp hsp => trodAll_mk3 (shut_int Tryd.underlying3 wn0) (WideElems.Trod_stays laidOut (by kernel_rfl) (of_decide_eq_true (by kernel_rfl)) h1 (fun x hx => hB.same (lt1 x hx)) (fun x hx => hsp x (by simp [hx]))) (Go.ChangeMaps.shut_string Tryd.underlying9 ws2)) (fun _ _ => rfl) (by simp) hB (ok_one (by kernel_rfl) rfl (okWide_bool_mk Tryd.underlying4 _))⟩

theorem reads (os : Os) {H : Type} (enc : TypeId × Value → H) : ∃ places, DataW.whole enc Tryd.prog ((laidWorld os).forCall (fun _ _ => 0) ⟨#[], #[.int .i64 0, .slice none 0 0, .string ⟨#[]⟩], []⟩).memory Tryd.f5.params.toList Rows.diskCrashesSpec.vars false (#[.int .i64 0, .slice none 0 0, .string ⟨#[]⟩] : Array Value).toList 8 = some ([.lit (.int .i64 0), .nil, .lit (.string [])], [], places) :=
  ⟨[], by kernel_rfl⟩

set_option maxRecDepth 100000 in
theorem lifted (os : Os) (started : os.Started) (H : Type) (enc : TypeId × Value → H) (F : Stop.Interp) :
    ReturnsInHanded {} Tryd.checked os 5 .any ((OpenSpec.ofChange Rows.diskCrashesSpec).preRow enc Tryd.prog Tryd.f5 Rows.diskCrashesRow.domain false Rows.diskCrashesRow.laid) (((OpenSpec.ofChange Rows.diskCrashesSpec).at F).post enc Tryd.prog Tryd.f5 false true false false) := by
  obtain ⟨places, hx⟩ := reads os enc
  refine returnsInHanded_of_row (C := Tryd.checked) (s := OpenSpec.ofChange Rows.diskCrashesSpec) own started (by kernel_rfl) Tryd.func5
    (witness_row_at (enc := enc) (C := Tryd.checked) false (laidWorld os) #[.int .i64 0, .slice none 0 0, .string ⟨#[]⟩] rfl (by kernel_rfl) (by kernel_rfl) (by kernel_rfl)
      (OpenSpec.preRow_of_cond 8 hx (by kernel_rfl) (fun k hk => by cases hk) (by kernel_rfl) (laid_met os _))) ?_
  intro W base args ds gs before hval hW _ hcond hreach hL _ _
  obtain ⟨p, q, hA0, hV, hpq, hfz, hnd⟩ := id hW
  obtain ⟨rfl, _⟩ := trodVars_none hV
  rw [List.append_nil] at hreach
  exact contract H enc W base args ds [] before hval hW hreach

theorem said : Rows.DiskCrashesSaid :=
  OpenClaim.holds_of_cond 5 Tryd.f5 rfl rfl rfl rfl rfl rfl rfl ⟨rfl, rfl, rfl, rfl, rfl⟩ rfl rfl rfl rfl rfl (by kernel_rfl) Tryd.func5 (by kernel_rfl)
    (of_decide_eq_true (by kernel_rfl)) (by unfold Func.isWrapper; first | (rw [if_pos (by decide +kernel)]; kernel_rfl) | (rw [if_neg (by decide +kernel)]; exact ⟨rfl, rfl⟩))
    (fun os started H enc _ F => by rw [OpenClaim.pre_eq_preRow]; exact lifted os started H enc F)

theorem plain (f : FuncId) (fn : Func) (hf : Tryd.pinned.checked.prog.funcNamed "stillage/stillagelaw06.DiskCrashes" = some f) (hfn : Tryd.pinned.checked.prog.funcs[f]? = some fn) :
    true = Tryd.pinned.checked.prog.looks [] ∧ ∀ (j : Nat) t, fn.params[j]? = some t → Tryd.pinned.checked.prog.wantsStandIn t = false := by
  obtain rfl : f = 5 := Option.some.inj ((show Tryd.prog.funcNamed "stillage/stillagelaw06.DiskCrashes" = some 5 by kernel_rfl).symm.trans hf) |>.symm
  obtain rfl : fn = Tryd.f5 := (Option.some.inj (Tryd.func5.symm.trans hfn)).symm
  refine ⟨by kernel_rfl, fun j t ht => ?_⟩
  rw [Tryd.params5] at ht
  have hm : t ∈ [3, 35, 9] := by simpa using Array.mem_of_getElem? ht
  have hall : ([3, 35, 9].all fun u => !Tryd.prog.wantsStandIn u) = true := by kernel_rfl
  exact (show Tryd.prog.wantsStandIn t = false by simpa using List.all_eq_true.1 hall t hm)

/-- THE CARD -/
theorem card : Rows.DiskCrashesCardSaid :=
  Claim7.holds_tied_plain_at .later [] _ _ _ _ said (fun _ h => by cases h) (by kernel_rfl) (fun _ h => by cases h) diskCrashes_row_tie rfl ⟨rfl, rfl⟩ (by kernel_rfl) rfl plain (by kernel_rfl)


end Go.Proofs.YtickjomnmifmjaaDoor.crashes
