/-
  A tree: write.
-/
import Derived.Test.YtfokdmijkniomaaGreatDoorF3
namespace Go.Proofs.YtfokdmijkniomaaGreatDoor
open Go.RowKit Go Go.Maps

section
variable {w w' w2 : World} {B c : Nat} {F : Nat → Prop} {T : List Nod}
set_option maxRecDepth 100000 in
set_option maxHeartbeats 4000000 in
theorem write_any (h : TreeIs B F c T w) (hG : Formed T) {s : ByteArray} (hs : s.size ≤ 281474976710656) {l : List ByteArray} (hp : IsPath s l) {a : Int} (ha : 0 ≤ a ∧ a ≤ 16384) {b : ByteArray} (hb : b.size ≤ 512) :
    Calls Tryz.prog 23 #[.pointer (some ⟨c, 0, none⟩), .string s, .int .i64 a, .string b] w fun e w' => e = .returned (.int .i64 (writeV T l a b).2) ∧ LeftT B F c (writeV T l a b).1 w w' := by
  have HI := Lib.hid h
  obtain ⟨m, P, G, D, h, hF, hB⟩ := h
  have C := file_any h hG hs
  rw [fileR_is hG hp] at C
  have HH := Lib.hid h
  have HF := Lib.hid hF
  have HB := Lib.hid hB
  unfold writeV
  cases hf : fileE T l with
  | error e =>
    have he := file_err hf
    have he0 : (e != 0) = true := by simp; omega
    rw [hf] at C
    simp only at C ⊢
    unfold walkRes at C
    simp only at C
    clear h hG hF hB hf he hp
    go_enter Tryz.func23, Tryz.ntmps23
    go_wp2_with fail
    refine C.mono ?_
    rintro e w1 ⟨rfl, hB1⟩
    go_wp2
    go_ret
    exact ⟨rfl, LeftT.same HI.out hB1⟩
  | ok x =>
    obtain ⟨hfe, hxf⟩ := fileE_ok hf
    obtain ⟨_, hx⟩ := findE_ok hfe
    rw [hf] at C
    simp only at C ⊢
    unfold walkRes at C
    simp only at C
    have hdl := ((hG.nodeOk hx).2.1 hxf).2
    obtain ⟨n, rfl⟩ : ∃ n : Nat, a = n := ⟨a.toNat, by omega⟩
    have hn := ha.2
    have hbz : (b.size : Int) ≤ 512 := by omega
    have hw64 : RowKit.wrap64 ((n : Int) + (b.size : Int)) = (n : Int) + (b.size : Int) := w64_nat' n b.size (by omega) (by omega)
    by_cases hlt : (x.data.size : Int) < (n : Int)
    · rw [if_pos (.inl hlt)]
      clear h hG hF hB hf hfe hxf hp hdl ha
      go_enter Tryz.func23, Tryz.ntmps23
      go_wp2_with fail
      refine C.mono ?_
      rintro e w1 ⟨rfl, hB1⟩
      have h1 := HH.out.later hB1
      have d3 := NObj.c3 (h1.node _ x hx).obj
      clear h1
      go_wp2
      go_ret
      exact ⟨rfl, LeftT.same HI.out hB1⟩
    · by_cases hgt : (16384 : Int) < (n : Int) + (b.size : Int)
      · rw [if_pos (.inr hgt)]
        clear h hG hF hB hf hfe hxf hp hdl ha
        go_enter Tryz.func23, Tryz.ntmps23
        go_wp2_with fail
        refine C.mono ?_
        rintro e w1 ⟨rfl, hB1⟩
        have h1 := HH.out.later hB1
        have d3 := NObj.c3 (h1.node _ x hx).obj
        clear h1
        go_wp2
        go_ret
        exact ⟨rfl, LeftT.same HI.out hB1⟩
      · rw [if_neg (fun h => h.elim hlt hgt)]
        have hle : n ≤ x.data.size := by omega
        have hltN : ¬ x.data.size < n := by omega
        have CC := fun w => clone_any b (by omega) w
        obtain ⟨k, hk⟩ : ∃ k, k = min (n + b.size) x.data.size := ⟨_, rfl⟩
        have hkz : min ((n : Int) + (b.size : Int)) (x.data.size : Int) = (k : Int) := by omega
        have hkle : k ≤ x.data.size := by omega
        have HX := Lib.hid hx
        have HE1 := Lib.hid (firsts_is x.data n)
        have HE2 := Lib.hid (wrote_is x.data b n k hk)
        have hsz1 : (firsts x.data n).size = n := by rw [firsts_size]; omega
        have HSZ := Lib.hid hdl
        obtain ⟨X1, hX1⟩ : ∃ X, x.data.extract 0 n = X := ⟨_, rfl⟩
        obtain ⟨X2, hX2⟩ : ∃ X, x.data.extract k x.data.size = X := ⟨_, rfl⟩
        have hs1 : X1.size = n := by rw [← hX1, ByteArray.size_extract]; omega
        have hs2 : X2.size ≤ 16384 := by rw [← hX2, ByteArray.size_extract]; omega
        have hj1 : ¬ 9223372036854775807 < X1.size + b.size := by omega
        have hj2 : ¬ 9223372036854775807 < X1.size + b.size + X2.size := by omega
        have HE3 := Lib.hid (show X1 ++ b ++ X2 = wrote x.data n b by rw [← HE2.out, ← hX1, ← hX2, HE1.out])
        clear HE1 HE2 hs1 hs2 hsz1
        rw [Int.toNat_natCast]
        clear h hG hF hB hf hfe hxf hp ha hx hk
        go_enter Tryz.func23, Tryz.ntmps23
        go_wp2_with fail
        refine C.mono ?_
        rintro e w1 ⟨rfl, hB1⟩
        have h1 := HH.out.later hB1
        have hN := (h1.node _ x HX.out).obj
        have d3 := NObj.c3 hN
        have f3 := NObj.fr hN 3
        have H1 := Lib.hid h1
        have HB1 := Lib.hid hB1
        clear h1 hB1 C hN
        go_wp2_with fail
        go_region_law (go_simp; go_at_call 44; refine (CC _).mono ?_; rintro e w2 ⟨rfl, hB2⟩; have d3' := (hB2.cell (p := ⟨P x.num, 3, none⟩) (lt_of_cell d3)).trans d3; have f3' := (hB2.frozen (p := ⟨P x.num, 3, none⟩) (lt_of_cell d3)).trans f3)
        all_goals (
          have hB3 : Below w1.heap.size w1 w2 := ⟨hB2.os, hB2.tape, hB2.output, hB2.size, hB2.block⟩
          have h2 := H1.out.later hB3
          have hN := (h2.node _ x HX.out).obj
          rw [HE3.out]
          obtain ⟨r1, r2⟩ := h2.cell (y := { x with data := wrote x.data n b }) HX.out rfl rfl rfl (NObj.set3 hN (wrote x.data n b))
          have HL := Lib.hid (show LeftT B F c (putN { x with data := wrote x.data n b } T) w (w2.setCell ⟨P x.num, 3, none⟩ (.string (wrote x.data n b))) from
            LeftT.of r1 HF.out HB.out (HH.out.lt (.inl rfl)) ((Stir.of_below (HB1.out.trans (hB3.mono HB1.out.size))).trans r2 (fun i hi => .inl hi)) (fun i hi => .inl (foot_turn (y := { x with data := wrote x.data n b }) HX.out hi)))
          clear h2 hN r1 r2
          go_wp2
          go_ret
          exact ⟨rfl, HL.out⟩)
end
end Go.Proofs.YtfokdmijkniomaaGreatDoor

