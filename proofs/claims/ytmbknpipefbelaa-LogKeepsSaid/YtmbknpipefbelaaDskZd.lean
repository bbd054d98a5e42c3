/-
  The reference's disk: Write.
-/
import Derived.Test.YtmbknpipefbelaaDskZc
namespace Go.Proofs.Ytmbknpipefbelaa
open Go.RowKit Go Go.Maps SM

theorem infoLoose : (Try.prog.info? 99).map (fun i => (i.zero, i.size, i.bytes)) = some (some (.agg #[.int .i64 0, .string ⟨#[]⟩]), 2, 24) := by kernel_rfl
/-- each such sector turned -/
def turnQ (n : Int) (x : ByteArray) (q : Int × ByteArray) : Int × ByteArray := if q.1 = n then (q.1, x) else q
def mixed (l : List (Int × ByteArray)) (n : Int) (x : ByteArray) (k : Nat) : List (Int × ByteArray) := (l.take k).map (turnQ n x) ++ l.drop k
def seen (l : List (Int × ByteArray)) (n : Int) (k : Nat) : Bool := (l.take k).any fun q => q.1 == n
section
variable {l : List (Int × ByteArray)} {n : Int} {x : ByteArray} {k : Nat}
theorem mixed_zero : mixed l n x 0 = l := by simp [mixed]
theorem mixed_len : (mixed l n x k).length = l.length := by simp [mixed]; omega
theorem mixed_at (h : k < l.length) : (mixed l n x k)[k]'(by rw [mixed_len]; exact h) = l[k] := by
  unfold mixed
  rw [List.getElem_append_right (by simp; omega)]
  simp only [List.getElem_drop, List.length_map, List.length_take]
  congr 1
  omega
theorem mixed_succ (h : k < l.length) : mixed l n x (k + 1) = (mixed l n x k).set k (turnQ n x l[k]) := by
  unfold mixed
  rw [List.take_succ_eq_append_getElem h, List.map_append, List.set_append_right _ _ (by simp; omega), List.length_map, List.length_take, show k - min k l.length = 0 by omega, List.drop_eq_getElem_cons h, List.set_cons_zero, List.append_assoc]
  rfl
theorem mixed_all : mixed l n x l.length = l.map (turnQ n x) := by simp [mixed]
theorem seen_zero : seen l n 0 = false := by simp [seen]
theorem seen_succ (h : k < l.length) : seen l n (k + 1) = (seen l n k || (l[k].1 == n)) := by
  unfold seen
  rw [List.take_succ_eq_append_getElem h, List.any_append]
  simp
theorem seen_all : seen l n l.length = l.any fun q => q.1 == n := by simp [seen]
theorem turnQ_no {q : Int × ByteArray} (h : q.1 ≠ n) : turnQ n x q = q := by simp [turnQ, h]
theorem looseCells_set : ∀ (l : List (Int × ByteArray)) (k : Nat) (h : k < l.length) (y : ByteArray), looseCells (l.set k (l[k].1, y)) = (looseCells l).set (k * 2 + 1) (.string y)
  | [], _, h, _ => by simp at h
  | q :: r, 0, _, y => by simp [looseCells]
  | q :: r, k + 1, h, y => by
    have ih := looseCells_set r k (by simpa using h) y
    have e : ∀ (p : Int × ByteArray) (t : List (Int × ByteArray)), looseCells (p :: t) = [.int .i64 p.1, .string p.2] ++ looseCells t := fun _ _ => rfl
    rw [List.set_cons_succ, e, e, List.getElem_cons_succ, ih, show (k + 1) * 2 + 1 = (k * 2 + 1) + 2 by omega, List.set_append_right _ _ (by simp)]
    rfl
end

theorem two_new (w : World) (a b : Value) (t : TypeId) : ∀ (j : Nat) (u : Value), [a, b][j]? = some u → (w.alloc (.cells #[a, b] t)).cell? ((⟨w.heap.size, 0, none⟩ : Addr).add j) = some u := by
  intro j u hu
  have hh := heap_alloc_new w (.cells #[a, b] t)
  have hj : j = 0 ∨ j = 1 := by
    have := (List.getElem?_eq_some_iff.1 hu).1
    simp at this
    omega
  rw [Addr.add_lit]
  rcases hj with rfl | rfl
  · simp only [World.cell?, hh]
    simpa using hu
  · simp only [World.cell?, hh]
    simpa using hu
section
variable {r base : Nat} {s : DS} {zs : List Int} {v0 v1 v2 : Value} {kp : ByteArray} {w w' : World}
/-- the list of loose ones is another one -/
theorem RefAt.newLoose (h : RefAt r base s zs v0 v1 v2 kp w) (hB : Below w.heap.size w w') {l' : List (Int × ByteArray)} {v' : Value} (hr : w'.ownsRow w.heap.size 99 2 v' l'.length (looseCells l')) :
    RefAt r base { s with loose := l' } zs v0 v' v2 kp (w'.setCell ⟨r, 1, none⟩ v') := by
  have h' := h.below hB
  have hlt := lt_of_heap h.obj
  exact ⟨by rw [heap_set h'.obj]; simp [RO], owns_other h'.st h'.obj (by decide) _, owns_other (hr.mono (by have := h.low; omega)) h'.obj (by decide) _, owns_other h'.ba h'.obj (by decide) _, h.bads, h.few, h.keep, h.kple, h.low⟩

set_option maxRecDepth 100000 in
set_option maxHeartbeats 4000000 in
theorem rwrite_at (h : RefAt r base s zs v0 v1 v2 kp w) (hk : s.Ok) (hm : s.made < 1099511627776) (n : Int) (hn : I64 n) (x : ByteArray) :
    Calls Try.prog 69 #[.pointer (some ⟨r, 0, none⟩), .int .i64 n, .string x] w fun e w' => e = .returned (.int .i64 (s.writeE n x)) ∧ (∃ v1' kp', RefAt r base (s.write n x) zs v0 v1' v2 kp' w') ∧ Stir (RF r v0) w w' := by
  have C1 := rmay_at h hk n hn
  have C2 := risBad_at h n
  have H0 := Lib.hid h
  by_cases hmay : s.may n = 0
  · rw [hmay] at C1
    by_cases h64 : x.size = 64
    · have h64b : ((x.size : Int) == 64) = true := by rw [h64]; rfl
      cases hb : s.bad n with
      | true =>
        rw [hb] at C2
        rw [show s.writeE n x = 3 by simp [DS.writeE, hmay, h64, hb], show s.write n x = s by simp [DS.write, DS.fits, hb]]
        clear h hmay h64
        go_enter Try.func69, Try.ntmps69
        go_wp2_with fail
        refine C1.mono ?_
        rintro e w' ⟨rfl, rfl⟩
        go_wp2_with fail
        refine C2.mono ?_
        rintro e w' ⟨rfl, rfl⟩
        go_wp2
        go_ret
        exact ⟨rfl, ⟨_, _, H0.out⟩, Stir.refl _ _⟩
      | false =>
        rw [hb] at C2
        have hfit : s.fits n x = true := by simp [DS.fits, hmay, h64, hb]
        have hE : s.writeE n x = if s.armed = 1 then 2 else 0 := by simp [DS.writeE, hmay, h64, hb]
        have hW : s.write n x = if s.armed = 1 then (s.lays n x).goes s.keep else s.lays n x := by simp [DS.write, hfit]
        obtain ⟨h0, h1⟩ := (DS.may_ok hmay).2
        have hlo : (s.lays n x).Ok := hk.lays h0 h1 h64
        obtain ⟨i0, hi, hz0, hz1, hz2⟩ := info_parts infoLoose
        have hfew := hk.few
        rw [hE, hW]
        obtain ⟨N, hN⟩ : ∃ N, s.loose.length = N := ⟨_, rfl⟩
        obtain ⟨EE, hEE⟩ : ∃ EE : Int, (if s.armed = 1 then (2 : Int) else 0) = EE := ⟨_, rfl⟩
        obtain ⟨TT, hTT⟩ : ∃ TT : DS, (if s.armed = 1 then (s.lays n x).goes s.keep else s.lays n x) = TT := ⟨_, rfl⟩
        rw [hEE, hTT]
        have HEE := Lib.hid hEE
        have HTT := Lib.hid hTT
        clear hEE hTT
        have hPN : putL n x s.loose = s.loose.map (turnQ n x) ++ (if s.loose.any (fun q => q.1 == n) then [] else [(n, x)]) := putL_map n x hk.nd
        have HPN := Lib.hid hPN
        have HK := Lib.hid hk
        have HL := Lib.hid hlo
        obtain ⟨w0, hw0⟩ : ∃ w0, w.alloc (.cells #[] 99) = w0 := ⟨_, rfl⟩
        have hB0 : Below w.heap.size w w0 := by rw [← hw0]; exact (Below.refl _ w).alloc (Nat.le_refl _) _
        have HB0 := Lib.hid hB0
        have c1a := RO.c1 (keeps_of hB0 h.obj)
        have HR0 := Lib.hid (show w0.ownsRow w.heap.size 99 2 (.slice (some ⟨w.heap.size, 0, none⟩) 0 0) 0 [] by rw [← hw0]; exact World.ownsRow_made (base := w.heap.size) (e := 99) (size := 2) w #[] 0 (Nat.le_refl _) (Nat.zero_le _) rfl)
        have hNle : N ≤ 1099511627776 := by omega
        have HNL := Lib.hid hNle
        have hlow := h.lo
        rcases h.lo.2 with ⟨rfl, hN0⟩ | ⟨gl, cl0, curl, rfl, _, hgl, _⟩
        · have hl0 : s.loose = [] := List.eq_nil_of_length_eq_zero hN0
          have hN1 : N = 0 := by omega
          have HR1 := Lib.hid (show w0.ownsRow w.heap.size 99 2 (.slice (some ⟨w.heap.size, 0, none⟩) N 0) N (looseCells s.loose) by rw [hN1, hl0]; exact HR0.out)
          have HB1 := HB0
          obtain ⟨ql, hql⟩ : ∃ ql, ql = w.heap.size := ⟨_, rfl⟩
          obtain ⟨cl, hcl⟩ : ∃ cl, cl = 0 := ⟨_, rfl⟩
          have HR1 := Lib.hid (show w0.ownsRow w.heap.size 99 2 (.slice (some ⟨ql, 0, none⟩) N cl) N (looseCells s.loose) by rw [hql, hcl]; exact HR1.out)
          have HV := Lib.hid (show Value.slice (some ⟨w.heap.size, 0, none⟩) 0 0 = .slice (some ⟨ql, 0, none⟩) N cl by rw [hql, hcl, hN1])
          clear h hmay hE hW h0 h1 h64 hfit hlo hPN hB0 hk hlow hl0 hN1 hN0 hql hcl hNle
          go_enter Try.func69, Try.ntmps69
          go_wp2_with fail
          refine C1.mono ?_
          rintro e w' ⟨rfl, rfl⟩
          go_wp2_with fail
          refine C2.mono ?_
          rintro e w' ⟨rfl, rfl⟩
          clear C1 C2
          go_wp2_with (at_builtin; refine wpList_append_own_none rfl _ _ 78 rfl w.heap.size 99 i0 2 Try.underlying78 hi _ 0 _ rfl HR0.out rfl ?_; rw [HV.out])
          clear hw0 c1a HR0
          have hNle := HNL.out
          go_loopw [9, 10] (fun v i wr => ∃ k : Nat, k ≤ N ∧ i = .int .i64 k ∧ v = .bool (seen s.loose n k) ∧ wr.ownsRow w.heap.size 99 2 (.slice (some ⟨ql, 0, none⟩) N cl) N (looseCells (mixed s.loose n x k)) ∧ Below w.heap.size w wr) (fun _ i _ => N - (intOf i).toNat)
          case atStart => exact ⟨0, Nat.zero_le _, rfl, by rw [seen_zero], by rw [mixed_zero]; exact HR1.out, HB1.out⟩
          case round =>
            obtain ⟨k, hkl, rfl, rfl, hrow, hB⟩ := hrel
            have HR := Lib.hid hrow
            have HB := Lib.hid hB
            clear hrow hB HR1 HB1
            by_cases hlt : k < N
            · have hki : (k : Int) < (N : Int) := by omega
              have hlt' : k < s.loose.length := by rw [hN]; exact hlt
              have hml : k < (mixed s.loose n x k).length := by rw [mixed_len]; exact hlt'
              obtain ⟨m1, m2⟩ := looseCells_at (mixed s.loose n x k) k hml
              rw [mixed_at hlt'] at m1 m2
              have d1 : wr.cell? ⟨ql, k * 2, none⟩ = some (.int .i64 s.loose[k].1) := by rw [HR.out.cellAt _ (by omega)]; exact m1
              have d2 : wr.cell? ⟨ql, k * 2 + 1, none⟩ = some (.string s.loose[k].2) := by rw [HR.out.cellAt _ (by omega)]; exact m2
              have f2 : wr.frozen? ⟨ql, k * 2 + 1, none⟩ = false := HR.out.frozenAt _
              have hsn := seen_succ (n := n) hlt'
              have hms := mixed_succ (n := n) (x := x) hlt'
              have HSN := Lib.hid hsn
              by_cases hz : s.loose[k].1 = n
              · have hq : turnQ n x s.loose[k] = (s.loose[k].1, x) := by simp [turnQ, hz]
                rw [hq] at hms
                have hsc := looseCells_set (mixed s.loose n x k) k hml x
                rw [mixed_at hlt', ← hms] at hsc
                have hrow3 := (HR.out.stored (k * 2 + 1) (.string x)).1
                rw [← hsc] at hrow3
                have HR3 := Lib.hid hrow3
                have HB3 := Lib.hid (HB.out.setCell (p := ⟨ql, k * 2 + 1, none⟩) (HR.out.lt ql rfl).1 (.string x))
                have hs1 : seen s.loose n (k + 1) = true := by rw [hsn]; simp [hz]
                have HS1 := Lib.hid hs1
                have hzn : s.loose[k].1 = n := hz
                rw [hzn] at d1
                generalize s.loose[k].2 = y at d2
                clear m1 m2 hsn hms hq hsc hrow3 hs1 hz hzn hml HSN hlt'
                go_wp2_with fail
                go_roundw
                case rel => exact ⟨k + 1, by omega, by go_num, by rw [HS1.out], HR3.out, HB3.out⟩
                case measure => simp [intOf]; omega
              · rw [turnQ_no hz] at hms
                have hms2 : mixed s.loose n x (k + 1) = mixed s.loose n x k := by
                  rw [hms]
                  have e := mixed_at (n := n) (x := x) hlt'
                  conv => lhs; rw [← e]
                  exact List.set_getElem_self _
                have hs1 : seen s.loose n (k + 1) = seen s.loose n k := by rw [hsn]; simp [hz]
                have HS1 := Lib.hid hs1
                have HM2 := Lib.hid hms2
                have hzb : (s.loose[k].1 == n) = false := beq_eq_false_iff_ne.2 hz
                clear m1 m2 hsn hms hms2 hs1 hml HSN
                generalize s.loose[k].1 = z at d1 hz hzb
                generalize s.loose[k].2 = y at d2
                clear hlt'
                go_wp2_with fail
                go_roundw
                case rel => exact ⟨k + 1, by omega, by go_num, by rw [HS1.out], by rw [HM2.out]; exact HR.out, HB.out⟩
                case measure => simp [intOf]; omega
            · obtain rfl : N = k := by omega
              have hki : ¬ ((N : Nat) : Int) < (N : Int) := by omega
              have hrow := HR.out
              rw [← hN, mixed_all, hN] at hrow
              have hsl : seen s.loose n N = s.loose.any fun q => q.1 == n := by rw [← hN, seen_all]
              rw [hsl]
              have hO := (H0.out.below HB.out).obj
              have HR4 := Lib.hid hrow
              clear hrow hsl HR hlt hkl
              have hpn := HPN.out
              cases hany : s.loose.any (fun q => q.1 == n) with
              | true =>
                rw [hany, if_pos rfl, List.append_nil] at hpn
                have f1 := RO.fr hO 1
                have c13 := RO.c1 hO
                have X := H0.out.newLoose HB.out (l' := putL n x s.loose) (v' := .slice (some ⟨ql, 0, none⟩) N cl) (by rw [hpn, List.length_map, hN]; exact HR4.out)
                have HX := Lib.hid X
                have HS := Lib.hid ((Stir.of_below (F := RF r v0) HB.out).set (b := r) (i := 1) (.inl (.inl rfl)) (.slice (some ⟨ql, 0, none⟩) N cl))
                clear X hO hpn HPN hN
                have L := rstep_at HX.out HK.out.arm hm
                have KP := Lib.hid (show s.armed = 1 → kp = s.keep from fun e => H0.out.keep (by omega))
                by_cases ha : s.armed = 1
                · rw [show (({ s with loose := putL n x s.loose } : DS).armed == 1) = true from beq_iff_eq.2 ha] at L
                  obtain rfl := KP.out ha
                  go_wp2_with fail
                  refine L.mono ?_
                  rintro e w4 ⟨rfl, h4, s4⟩
                  have c5 : w4.cell? ⟨r, 5, none⟩ = some (.string s.keep) := RO.c5 h4.obj
                  have S4 := Lib.hid (HS.out.trans s4 (fun i e => .inl e))
                  have F := rgoes_at h4 HL.out (by have := HL.out.few; simp [DS.lays, DS.tick] at this ⊢; omega) (keep := s.keep) HK.out.keep
                  clear h4 s4 L
                  go_wp2_with fail
                  refine F.mono ?_
                  rintro e w5 ⟨rfl, ⟨v1', kp', h5⟩, s5⟩
                  have H5 := Lib.hid h5
                  have S5 := Lib.hid (S4.out.trans s5 (fun i e => .inl e))
                  clear h5 s5 F
                  go_wp2
                  go_ret
                  exact ⟨by rw [← HEE.out, if_pos ha]; rfl, ⟨_, _, by rw [← HTT.out, if_pos ha]; exact H5.out⟩, S5.out⟩
                · rw [show (({ s with loose := putL n x s.loose } : DS).armed == 1) = false from beq_eq_false_iff_ne.2 ha] at L
                  go_wp2_with fail
                  refine L.mono ?_
                  rintro e w4 ⟨rfl, h4, s4⟩
                  have H4 := Lib.hid h4
                  have S4 := Lib.hid (HS.out.trans s4 (fun i e => .inl e))
                  clear h4 s4 L
                  go_wp2
                  go_ret
                  exact ⟨by rw [← HEE.out, if_neg ha]; rfl, ⟨_, _, by rw [← HTT.out, if_neg ha]; exact H4.out⟩, S4.out⟩
              | false =>
                rw [hany, if_neg (by simp)] at hpn
                go_wp2_with (at_builtin; refine wpList_append_own _ rfl _ _ 78 rfl w.heap.size 99 i0 (.agg #[.int .i64 0, .string ⟨#[]⟩]) 2 24 Try.underlying78 hi hz0 hz1 hz2 rfl (by decide) _ N _ rfl (HR4.out.alloc _) ⟨wr.heap.size, 0, none⟩ 1 1 [.int .i64 n, .string x] rfl rfl (two_new _ _ _ _) (by simp [Value.oneCell']) (by unfold maxLen; omega) (by omega) (by simp; have := HB.out.size; omega) ?_
                             intro v' w3 hrow3 hgrow3 _
                             obtain ⟨a3, c3, rfl⟩ := row_shape hrow3
                             have hB3 := (HB.out.alloc HB.out.size (.cells #[.int .i64 n, .string x] 99)).grown hgrow3 (by have := HB.out.size; simp; omega) (fun j hj => (HR4.out.lt j hj).1)
                             have ho3 := (H0.out.below hB3).obj
                             have f1 := RO.fr ho3 1
                             have c13 := RO.c1 ho3
                             have X := H0.out.newLoose hB3 (l' := putL n x s.loose) (v' := .slice a3 (N + 1) c3) (by rw [hpn, List.length_append, List.length_map, hN, looseCells_append]; exact hrow3)
                             have HX := Lib.hid X
                             have HS := Lib.hid ((Stir.of_below (F := RF r v0) hB3).set (b := r) (i := 1) (.inl (.inl rfl)) (.slice a3 (N + 1) c3))
                             clear hB3 ho3 hrow3 hgrow3 X)
                have L := rstep_at HX.out HK.out.arm hm
                have KP := Lib.hid (show s.armed = 1 → kp = s.keep from fun e => H0.out.keep (by omega))
                by_cases ha : s.armed = 1
                · rw [show (({ s with loose := putL n x s.loose } : DS).armed == 1) = true from beq_iff_eq.2 ha] at L
                  obtain rfl := KP.out ha
                  go_wp2_with fail
                  refine L.mono ?_
                  rintro e w4 ⟨rfl, h4, s4⟩
                  have c5 : w4.cell? ⟨r, 5, none⟩ = some (.string s.keep) := RO.c5 h4.obj
                  have S4 := Lib.hid (HS.out.trans s4 (fun i e => .inl e))
                  have F := rgoes_at h4 HL.out (by have := HL.out.few; simp [DS.lays, DS.tick] at this ⊢; omega) (keep := s.keep) HK.out.keep
                  clear h4 s4 L
                  go_wp2_with fail
                  refine F.mono ?_
                  rintro e w5 ⟨rfl, ⟨v1', kp', h5⟩, s5⟩
                  have H5 := Lib.hid h5
                  have S5 := Lib.hid (S4.out.trans s5 (fun i e => .inl e))
                  clear h5 s5 F
                  go_wp2
                  go_ret
                  exact ⟨by rw [← HEE.out, if_pos ha]; rfl, ⟨_, _, by rw [← HTT.out, if_pos ha]; exact H5.out⟩, S5.out⟩
                · rw [show (({ s with loose := putL n x s.loose } : DS).armed == 1) = false from beq_eq_false_iff_ne.2 ha] at L
                  go_wp2_with fail
                  refine L.mono ?_
                  rintro e w4 ⟨rfl, h4, s4⟩
                  have H4 := Lib.hid h4
                  have S4 := Lib.hid (HS.out.trans s4 (fun i e => .inl e))
                  clear h4 s4 L
                  go_wp2
                  go_ret
                  exact ⟨by rw [← HEE.out, if_neg ha]; rfl, ⟨_, _, by rw [← HTT.out, if_neg ha]; exact H4.out⟩, S4.out⟩
        · have HNW := Lib.hid (show ∀ (j : Nat) (u : Value), (looseCells s.loose)[j]? = some u → w0.cell? ((⟨gl, 0, none⟩ : Addr).add j) = some u from fun j u hu => (owns_below hlow hB0).cells rfl j u hu)
          have HLC := Lib.hid (show (looseCells s.loose).length = N * 2 by rw [looseCells_length, hN])
          clear h hmay hE hW h0 h1 h64 hfit hlo hPN hB0 hk hlow hgl hNle
          go_enter Try.func69, Try.ntmps69
          go_wp2_with fail
          refine C1.mono ?_
          rintro e w' ⟨rfl, rfl⟩
          go_wp2_with fail
          refine C2.mono ?_
          rintro e w' ⟨rfl, rfl⟩
          clear C1 C2
          go_wp2_with (at_builtin; refine wpList_append_own _ rfl _ _ 78 rfl w.heap.size 99 i0 (.agg #[.int .i64 0, .string ⟨#[]⟩]) 2 24 Try.underlying78 hi hz0 hz1 hz2 rfl (by decide) _ 0 _ rfl HR0.out ⟨gl, 0, none⟩ N cl0 (looseCells s.loose) rfl HLC.out HNW.out (looseCells_one _) (by have := HNL.out; unfold maxLen; omega) (by have := HNL.out; omega) HB0.out.size ?_
                       intro v' w1 hrow1 hgrow1 hnil1
                       rw [Nat.zero_add, List.nil_append] at hrow1
                       obtain ⟨ql, cl, rfl⟩ : ∃ ql cl, v' = .slice (some ⟨ql, 0, none⟩) N cl := by
                         rcases hrow1.2 with ⟨e, _⟩ | ⟨g, c, cur, e, _⟩
                         · exact absurd (hnil1.1 e).1 (by intro hc; cases hc)
                         · exact ⟨g, c, e⟩
                       have HB1 := Lib.hid (HB0.out.grown hgrow1 HB0.out.size (fun j hj => (HR0.out.lt j hj).1))
                       have c1b := RO.c1 (H0.out.below HB1.out).obj
                       have HR1 := Lib.hid hrow1
                       clear hrow1 hgrow1 hnil1)
          clear hw0 c1a HR0 HNW HLC
          have hNle := HNL.out
          go_loopw [9, 10] (fun v i wr => ∃ k : Nat, k ≤ N ∧ i = .int .i64 k ∧ v = .bool (seen s.loose n k) ∧ wr.ownsRow w.heap.size 99 2 (.slice (some ⟨ql, 0, none⟩) N cl) N (looseCells (mixed s.loose n x k)) ∧ Below w.heap.size w wr) (fun _ i _ => N - (intOf i).toNat)
          case atStart => exact ⟨0, Nat.zero_le _, rfl, by rw [seen_zero], by rw [mixed_zero]; exact HR1.out, HB1.out⟩
          case round =>
            obtain ⟨k, hkl, rfl, rfl, hrow, hB⟩ := hrel
            have HR := Lib.hid hrow
            have HB := Lib.hid hB
            clear hrow hB HR1 HB1
            by_cases hlt : k < N
            · have hki : (k : Int) < (N : Int) := by omega
              have hlt' : k < s.loose.length := by rw [hN]; exact hlt
              have hml : k < (mixed s.loose n x k).length := by rw [mixed_len]; exact hlt'
              obtain ⟨m1, m2⟩ := looseCells_at (mixed s.loose n x k) k hml
              rw [mixed_at hlt'] at m1 m2
              have d1 : wr.cell? ⟨ql, k * 2, none⟩ = some (.int .i64 s.loose[k].1) := by rw [HR.out.cellAt _ (by omega)]; exact m1
              have d2 : wr.cell? ⟨ql, k * 2 + 1, none⟩ = some (.string s.loose[k].2) := by rw [HR.out.cellAt _ (by omega)]; exact m2
              have f2 : wr.frozen? ⟨ql, k * 2 + 1, none⟩ = false := HR.out.frozenAt _
              have hsn := seen_succ (n := n) hlt'
              have hms := mixed_succ (n := n) (x := x) hlt'
              have HSN := Lib.hid hsn
              by_cases hz : s.loose[k].1 = n
              · have hq : turnQ n x s.loose[k] = (s.loose[k].1, x) := by simp [turnQ, hz]
                rw [hq] at hms
                have hsc := looseCells_set (mixed s.loose n x k) k hml x
                rw [mixed_at hlt', ← hms] at hsc
                have hrow3 := (HR.out.stored (k * 2 + 1) (.string x)).1
                rw [← hsc] at hrow3
                have HR3 := Lib.hid hrow3
                have HB3 := Lib.hid (HB.out.setCell (p := ⟨ql, k * 2 + 1, none⟩) (HR.out.lt ql rfl).1 (.string x))
                have hs1 : seen s.loose n (k + 1) = true := by rw [hsn]; simp [hz]
                have HS1 := Lib.hid hs1
                have hzn : s.loose[k].1 = n := hz
                rw [hzn] at d1
                generalize s.loose[k].2 = y at d2
                clear m1 m2 hsn hms hq hsc hrow3 hs1 hz hzn hml HSN hlt'
                go_wp2_with fail
                go_roundw
                case rel => exact ⟨k + 1, by omega, by go_num, by rw [HS1.out], HR3.out, HB3.out⟩
                case measure => simp [intOf]; omega
              · rw [turnQ_no hz] at hms
                have hms2 : mixed s.loose n x (k + 1) = mixed s.loose n x k := by
                  rw [hms]
                  have e := mixed_at (n := n) (x := x) hlt'
                  conv => lhs; rw [← e]
                  exact List.set_getElem_self _
                have hs1 : seen s.loose n (k + 1) = seen s.loose n k := by rw [hsn]; simp [hz]
                have HS1 := Lib.hid hs1
                have HM2 := Lib.hid hms2
                have hzb : (s.loose[k].1 == n) = false := beq_eq_false_iff_ne.2 hz
                clear m1 m2 hsn hms hms2 hs1 hml HSN
                generalize s.loose[k].1 = z at d1 hz hzb
                generalize s.loose[k].2 = y at d2
                clear hlt'
                go_wp2_with fail
                go_roundw
                case rel => exact ⟨k + 1, by omega, by go_num, by rw [HS1.out], by rw [HM2.out]; exact HR.out, HB.out⟩
                case measure => simp [intOf]; omega
            · obtain rfl : N = k := by omega
              have hki : ¬ ((N : Nat) : Int) < (N : Int) := by omega
              have hrow := HR.out
              rw [← hN, mixed_all, hN] at hrow
              have hsl : seen s.loose n N = s.loose.any fun q => q.1 == n := by rw [← hN, seen_all]
              rw [hsl]
              have hO := (H0.out.below HB.out).obj
              have HR4 := Lib.hid hrow
              clear hrow hsl HR hlt hkl
              have hpn := HPN.out
              cases hany : s.loose.any (fun q => q.1 == n) with
              | true =>
                rw [hany, if_pos rfl, List.append_nil] at hpn
                have f1 := RO.fr hO 1
                have c13 := RO.c1 hO
                have X := H0.out.newLoose HB.out (l' := putL n x s.loose) (v' := .slice (some ⟨ql, 0, none⟩) N cl) (by rw [hpn, List.length_map, hN]; exact HR4.out)
                have HX := Lib.hid X
                have HS := Lib.hid ((Stir.of_below (F := RF r v0) HB.out).set (b := r) (i := 1) (.inl (.inl rfl)) (.slice (some ⟨ql, 0, none⟩) N cl))
                clear X hO hpn HPN hN
                have L := rstep_at HX.out HK.out.arm hm
                have KP := Lib.hid (show s.armed = 1 → kp = s.keep from fun e => H0.out.keep (by omega))
                by_cases ha : s.armed = 1
                · rw [show (({ s with loose := putL n x s.loose } : DS).armed == 1) = true from beq_iff_eq.2 ha] at L
                  obtain rfl := KP.out ha
                  go_wp2_with fail
                  refine L.mono ?_
                  rintro e w4 ⟨rfl, h4, s4⟩
                  have c5 : w4.cell? ⟨r, 5, none⟩ = some (.string s.keep) := RO.c5 h4.obj
                  have S4 := Lib.hid (HS.out.trans s4 (fun i e => .inl e))
                  have F := rgoes_at h4 HL.out (by have := HL.out.few; simp [DS.lays, DS.tick] at this ⊢; omega) (keep := s.keep) HK.out.keep
                  clear h4 s4 L
                  go_wp2_with fail
                  refine F.mono ?_
                  rintro e w5 ⟨rfl, ⟨v1', kp', h5⟩, s5⟩
                  have H5 := Lib.hid h5
                  have S5 := Lib.hid (S4.out.trans s5 (fun i e => .inl e))
                  clear h5 s5 F
                  go_wp2
                  go_ret
                  exact ⟨by rw [← HEE.out, if_pos ha]; rfl, ⟨_, _, by rw [← HTT.out, if_pos ha]; exact H5.out⟩, S5.out⟩
                · rw [show (({ s with loose := putL n x s.loose } : DS).armed == 1) = false from beq_eq_false_iff_ne.2 ha] at L
                  go_wp2_with fail
                  refine L.mono ?_
                  rintro e w4 ⟨rfl, h4, s4⟩
                  have H4 := Lib.hid h4
                  have S4 := Lib.hid (HS.out.trans s4 (fun i e => .inl e))
                  clear h4 s4 L
                  go_wp2
                  go_ret
                  exact ⟨by rw [← HEE.out, if_neg ha]; rfl, ⟨_, _, by rw [← HTT.out, if_neg ha]; exact H4.out⟩, S4.out⟩
              | false =>
                rw [hany, if_neg (by simp)] at hpn
                go_wp2_with (at_builtin; refine wpList_append_own _ rfl _ _ 78 rfl w.heap.size 99 i0 (.agg #[.int .i64 0, .string ⟨#[]⟩]) 2 24 Try.underlying78 hi hz0 hz1 hz2 rfl (by decide) _ N _ rfl (HR4.out.alloc _) ⟨wr.heap.size, 0, none⟩ 1 1 [.int .i64 n, .string x] rfl rfl (two_new _ _ _ _) (by simp [Value.oneCell']) (by unfold maxLen; omega) (by omega) (by simp; have := HB.out.size; omega) ?_
                             intro v' w3 hrow3 hgrow3 _
                             obtain ⟨a3, c3, rfl⟩ := row_shape hrow3
                             have hB3 := (HB.out.alloc HB.out.size (.cells #[.int .i64 n, .string x] 99)).grown hgrow3 (by have := HB.out.size; simp; omega) (fun j hj => (HR4.out.lt j hj).1)
                             have ho3 := (H0.out.below hB3).obj
                             have f1 := RO.fr ho3 1
                             have c13 := RO.c1 ho3
                             have X := H0.out.newLoose hB3 (l' := putL n x s.loose) (v' := .slice a3 (N + 1) c3) (by rw [hpn, List.length_append, List.length_map, hN, looseCells_append]; exact hrow3)
                             have HX := Lib.hid X
                             have HS := Lib.hid ((Stir.of_below (F := RF r v0) hB3).set (b := r) (i := 1) (.inl (.inl rfl)) (.slice a3 (N + 1) c3))
                             clear hB3 ho3 hrow3 hgrow3 X)
                have L := rstep_at HX.out HK.out.arm hm
                have KP := Lib.hid (show s.armed = 1 → kp = s.keep from fun e => H0.out.keep (by omega))
                by_cases ha : s.armed = 1
                · rw [show (({ s with loose := putL n x s.loose } : DS).armed == 1) = true from beq_iff_eq.2 ha] at L
                  obtain rfl := KP.out ha
                  go_wp2_with fail
                  refine L.mono ?_
                  rintro e w4 ⟨rfl, h4, s4⟩
                  have c5 : w4.cell? ⟨r, 5, none⟩ = some (.string s.keep) := RO.c5 h4.obj
                  have S4 := Lib.hid (HS.out.trans s4 (fun i e => .inl e))
                  have F := rgoes_at h4 HL.out (by have := HL.out.few; simp [DS.lays, DS.tick] at this ⊢; omega) (keep := s.keep) HK.out.keep
                  clear h4 s4 L
                  go_wp2_with fail
                  refine F.mono ?_
                  rintro e w5 ⟨rfl, ⟨v1', kp', h5⟩, s5⟩
                  have H5 := Lib.hid h5
                  have S5 := Lib.hid (S4.out.trans s5 (fun i e => .inl e))
                  clear h5 s5 F
                  go_wp2
                  go_ret
                  exact ⟨by rw [← HEE.out, if_pos ha]; rfl, ⟨_, _, by rw [← HTT.out, if_pos ha]; exact H5.out⟩, S5.out⟩
                · rw [show (({ s with loose := putL n x s.loose } : DS).armed == 1) = false from beq_eq_false_iff_ne.2 ha] at L
                  go_wp2_with fail
                  refine L.mono ?_
                  rintro e w4 ⟨rfl, h4, s4⟩
                  have H4 := Lib.hid h4
                  have S4 := Lib.hid (HS.out.trans s4 (fun i e => .inl e))
                  clear h4 s4 L
                  go_wp2
                  go_ret
                  exact ⟨by rw [← HEE.out, if_neg ha]; rfl, ⟨_, _, by rw [← HTT.out, if_neg ha]; exact H4.out⟩, S4.out⟩
    · have h64b : ((x.size : Int) == 64) = false := beq_eq_false_iff_ne.2 (by omega)
      rw [show s.writeE n x = 1 by simp [DS.writeE, hmay, h64], show s.write n x = s by simp [DS.write, DS.fits, h64]]
      clear h hmay h64 C2
      go_enter Try.func69, Try.ntmps69
      go_wp2_with fail
      refine C1.mono ?_
      rintro e w' ⟨rfl, rfl⟩
      go_wp2
      go_ret
      exact ⟨rfl, ⟨_, _, H0.out⟩, Stir.refl _ _⟩
  · have hne : (s.may n == 0) = false := beq_eq_false_iff_ne.2 hmay
    rw [show s.writeE n x = s.may n by simp [DS.writeE, hmay], show s.write n x = s by simp [DS.write, DS.fits, hne]]
    generalize s.may n = E at C1 hmay hne ⊢
    clear h hmay C2
    go_enter Try.func69, Try.ntmps69
    go_wp2_with fail
    refine C1.mono ?_
    rintro e w' ⟨rfl, rfl⟩
    go_wp2
    go_ret
    exact ⟨rfl, ⟨_, _, H0.out⟩, Stir.refl _ _⟩
end
end Go.Proofs.Ytmbknpipefbelaa
