/-
  Gap: the first number that a set has not, from one on, below another one.
-/
import Derived.Test.YtoafojddochcgaaDoorSetsE2
namespace Go.Proofs.YtoafojddochcgaaDoor
open Go.RowKit Go.Shelf Go SM
attribute [local go_sem] Oper.semAt_some

/-- where the run of numbers that begins at g ends -/
def run : List Nat → Nat → Nat
  | [], g => g
  | x :: l, g => if x = g then run l (g + 1) else g
theorem run_ge : ∀ (l : List Nat) (g : Nat), g ≤ run l g
  | [], g => Nat.le_refl _
  | x :: l, g => by
    unfold run
    split
    · have := run_ge l (g + 1); omega
    · exact Nat.le_refl _
theorem run_range : ∀ (m g : Nat) (r : List Nat), run (List.range' g m ++ r) g = run r (g + m)
  | 0, g, r => by simp
  | m + 1, g, r => by
    rw [List.range'_succ, List.cons_append, run, if_pos rfl, run_range m (g + 1) r]
    congr 1; omega
theorem range'_snoc (g m : Nat) : List.range' g (m + 1) = List.range' g m ++ [g + m] := by
  rw [List.range'_concat]; simp

/-- what Gap answers -/
def gapV (l : List UInt8) (from_ e : Int) : Value :=
  if e ≤ (run (nums l from_.toNat) from_.toNat : Nat) then .tuple #[.int .i64 0, .bool false] else .tuple #[.int .i64 (run (nums l from_.toNat) from_.toNat : Nat), .bool true]

theorem gapV_no {l : List UInt8} {f e : Int} {k : Nat} (hk : f.toNat = k) (h : e ≤ (run (nums l k) k : Nat)) : gapV l f e = .tuple #[.int .i64 0, .bool false] := by
  unfold gapV; rw [hk, if_pos h]
theorem gapV_yes {l : List UInt8} {f e : Int} {k g : Nat} (hk : f.toNat = k) (hg : run (nums l k) k = g) (h : ¬ e ≤ (g : Int)) : gapV l f e = .tuple #[.int .i64 g, .bool true] := by
  unfold gapV; rw [hk, hg, if_neg h]
def gapI (w : World) (e : Int) (k : Nat) (pre : List Nat) (W : World) : Prop :=
  ∃ g : Nat, g = k + pre.length ∧ pre = List.range' k pre.length ∧ (g : Int) ≤ 9223372036854775807 ∧ Boxed W w.heap.size 3 (.int .i64 e) ∧ Boxed W (w.heap.size + 1) 3 (.int .i64 g) ∧ Below w.heap.size w W
def gapX (w : World) (e : Int) (k : Nat) (c : Code) (pre : List Nat) (W : World) : Prop :=
  c = .exit 0 ∧ ∃ (m g x : Nat), g = k + m ∧ pre = List.range' k m ++ [x] ∧ (x ≠ g ∨ e ≤ g) ∧ Boxed W w.heap.size 3 (.int .i64 e) ∧ Boxed W (w.heap.size + 1) 3 (.int .i64 g) ∧ Below w.heap.size w W

set_option maxRecDepth 100000 in
set_option maxHeartbeats 4000000 in
theorem gap_in (n : Nat) (hn : 6 ≤ n) (s : ByteArray) (f e : Int) (hs : s.size ≤ 140737488355328) (hl : -9223372036854775808 ≤ f) (hf : f ≤ 9223372036854775807) (hle : -9223372036854775808 ≤ e) (hfe : e ≤ 9223372036854775807) (w : World) :
    CallsIn Fence.wide n Tryd.prog 28 #[.string s, .int .i64 f, .int .i64 e] w fun r w' => r = .returned (gapV s.data.toList f e) ∧ Below w.heap.size w w' := by
  have h1 : 1 ≤ n := by omega
  have hro : Fence.wide.round = none := rfl
  refine callsIn_of_wp_marks Tryd.func28 rfl trivial ?_ hro
  simp only [Tryd.ntmps28, List.size_toArray, List.length_cons, List.length_nil, Nat.reduceAdd, Nat.reduceSub, Array.replicate_succ, Array.replicate_zero, List.push_toArray, List.append_toArray, List.nil_append, List.cons_append]
  obtain ⟨k, hk⟩ : ∃ k : Nat, max f 0 = (k : Int) := ⟨f.toNat, by omega⟩
  have hk2 : f.toNat = k := by omega
  have hk3 : max (max f 0) 0 = (k : Int) := by omega
  have hkb : (k : Int) ≤ 9223372036854775807 := by omega
  have HK2 := Lib.hid hk2
  clear hk2
  gi_wp2_with (refine ⟨trivial, ?_⟩; gi_at_call 30; refine (numbers_in _ _ _ _).mono ?_; rintro e w' ⟨rfl, rfl⟩)
  have bE := Boxed.new w 3 (.int .i64 e)
  have bG := Boxed.new (w.alloc (.cells #[.int .i64 e] 3)) 3 (.int .i64 k)
  have bS := Boxed.new ((w.alloc (.cells #[.int .i64 e] 3)).alloc (.cells #[.int .i64 k] 3)) 9 (.string s)
  have bF := Boxed.new (((w.alloc (.cells #[.int .i64 e] 3)).alloc (.cells #[.int .i64 k] 3)).alloc (.cells #[.string s] 9)) 3 (.int .i64 k)
  simp only [World.size_alloc] at bG bS bF
  have hB0 : Below w.heap.size w ((((w.alloc (.cells #[.int .i64 e] 3)).alloc (.cells #[.int .i64 k] 3)).alloc (.cells #[.string s] 9)).alloc (.cells #[.int .i64 k] 3)) := ((((Below.refl _ w).alloc (Nat.le_refl _) _).alloc (by simp) _).alloc (by simp; omega) _).alloc (by simp; omega) _
  refine wpIn_rangeFunc_ownG hro h1 (gf := 37) (lb := #[.pointer (some ⟨w.heap.size + 1 + 1 + 1, 0, none⟩), .pointer (some ⟨w.heap.size + 1 + 1, 0, none⟩)]) rfl trivial (enters_of Tryd.func37 (by kernel_rfl) rfl)
    (numbers_stops (n - 1) (by omega) (w.heap.size + 1 + 1 + 1) (w.heap.size + 1 + 1) s k (by omega) (by omega) _ bF (bS.alloc _)) KeepB.trans (fun W l o o' _ h1 h2 _ => KeepB.put W l o o' h1 h2) (Below.refl _ _) (fun _ => rfl)
    (gapI w e k) (gapX w e k)
    (fun pre A B row hs hg hr => by
      obtain ⟨g, hx1, hx2, hx3, h1, h2, h3⟩ := hs
      exact ⟨g, hx1, hx2, hx3, boxed_ownFrom _ _ _ (fun _ : Unit => _) () A B row h1 hg hr, boxed_ownFrom _ _ _ (fun _ : Unit => _) () A B row h2 hg hr, ownFrom_below (β := Unit) (Nat.le_refl _) (by simp; omega) () A B row h3 hg hr⟩)
    (fun c pre A B row hs hg hr => by
      obtain ⟨hc, m, g, x, hx1, hx2, hx3, h1, h2, h3⟩ := hs
      exact ⟨hc, m, g, x, hx1, hx2, hx3, boxed_ownFrom _ _ _ (fun _ : Unit => _) () A B row h1 hg hr, boxed_ownFrom _ _ _ (fun _ : Unit => _) () A B row h2 hg hr, ownFrom_below (β := Unit) (Nat.le_refl _) (by simp; omega) () A B row h3 hg hr⟩)
    ⟨k, by simp, by simp, by omega, ((bE.alloc _).alloc _).alloc _, (bG.alloc _).alloc _, hB0⟩
    (fun x => { tmps := #[.string s, .int .i64 f, .int .i64 e, undef, undef, .pointer (some ⟨w.heap.size, 0, none⟩), .int .i64 0, .bool false, .pointer (some ⟨w.heap.size + 1, 0, none⟩), .int .i64 x, .int .i64 f, .int .i64 k, .string s, .int .i64 k, .func (.func 37) #[] #[.pointer (some ⟨w.heap.size + 1 + 1 + 1, 0, none⟩), .pointer (some ⟨w.heap.size + 1 + 1, 0, none⟩)], .int .i64 x, undef, undef, undef, undef, undef, undef, undef, undef, undef, undef, undef, undef, undef, undef], defers := [] }) ?assign ?body ?done ?stop
  case assign =>
    intro l x W K hK
    gi_wp2
    exact hK
  case body =>
    rintro l pre x W ⟨g, hg, hpre, hgb, hE, hG, hB⟩ hlt
    have HG := Lib.hid hg
    have HP := Lib.hid hpre
    clear hg hpre
    have hc1 := hE.cell
    have hc2 := hG.cell
    have hf2 := hG.frozen
    by_cases hx : x = g
    · have ht1 : ((x : Int) != (g : Int)) = false := by simp [hx]
      by_cases hge : e ≤ (g : Int)
      · have HX := Lib.hid hx
        clear hx
        gi_wp2
        exact ⟨KeepsFrom.refl _ _, rfl, pre.length, g, x, HG.out, by rw [← HP.out], .inr hge, hE, hG, hB⟩
      · have HX := Lib.hid hx
        clear hx
        gi_wp2
        have hx : x = k + pre.length := by rw [HX.out, HG.out]
        have hP := HP.out
        refine ⟨(KeepsOthers.setCell _ _ _).from _, ?_, g + 1, by rw [HG.out]; simp; omega, ?_, by omega, hE.other (by omega) _, hG.set _, hB.trans ((Below.refl _ W).setCell (p := ⟨w.heap.size + 1, 0, none⟩) (by simp) _)⟩
        · intro p hp hb
          simp only [List.mem_singleton] at hp
          subst hp
          exact hb.other (by simp) _
        · rw [List.length_append, List.length_singleton, range'_snoc, ← hP, hx]
    · have ht1 : ((x : Int) != (g : Int)) = true := by simp; omega
      gi_wp2
      exact ⟨KeepsFrom.refl _ _, rfl, pre.length, g, x, HG.out, by rw [← HP.out], .inl hx, hE, hG, hB⟩
  case done =>
    rintro D ys W hD rfl ⟨g, hg, hpre, hgb, hE, hG, hB⟩ hK
    have HG := Lib.hid hg
    have HP := Lib.hid hpre
    clear hg hpre
    have hc1 := hE.cell
    have hc2 := hG.cell
    by_cases hge : e ≤ (g : Int)
    · gi_wp2
      refine ⟨by simp, .inl ⟨_, _, rfl, run_takeDeferred hK, ?_⟩⟩
      refine ⟨.tuple #[.int .i64 0, .bool false], by simp [results, Tryd.f28, go_sem], ?_, hB.trans (belowK_b (w := w) (Nat.le_refl _) _ D _ _ (by simp at hD; omega) hK rfl rfl)⟩
      have hr := run_range (nums s.data.toList k).length k []
      rw [List.append_nil, ← HP.out] at hr
      rw [gapV_no HK2.out (by rw [hr]; show e ≤ ((k + (nums s.data.toList k).length : Nat) : Int); rw [← HG.out]; exact hge)]
    · gi_wp2
      refine ⟨by simp, .inl ⟨_, _, rfl, run_takeDeferred hK, ?_⟩⟩
      refine ⟨.tuple #[.int .i64 g, .bool true], by simp [results, Tryd.f28, go_sem], ?_, hB.trans (belowK_b (w := w) (Nat.le_refl _) _ D _ _ (by simp at hD; omega) hK rfl rfl)⟩
      have hr := run_range (nums s.data.toList k).length k []
      rw [List.append_nil, ← HP.out] at hr
      rw [gapV_yes (g := g) HK2.out (by rw [hr]; exact HG.out.symm) (by omega)]
  case stop =>
    rintro D c pre W hD hSp ⟨rfl, m, g, x, hg, hpre, hxg, hE, hG, hB⟩ hK
    have HG := Lib.hid hg
    have HP := Lib.hid hpre
    have HX := Lib.hid hxg
    have HS := Lib.hid hSp
    clear hg hpre hxg hSp
    have hc1 := hE.cell
    have hc2 := hG.cell
    by_cases hge : e ≤ (g : Int)
    · gi_wp2
      refine ⟨by simp, .inl ⟨_, _, rfl, run_takeDeferred hK, ?_⟩⟩
      refine ⟨.tuple #[.int .i64 0, .bool false], by simp [results, Tryd.f28, go_sem], ?_, hB.trans (belowK_b (w := w) (Nat.le_refl _) _ D _ _ (by simp at hD; omega) hK rfl rfl)⟩
      obtain ⟨rest, hrest⟩ := HS.out
      rw [HP.out, List.append_assoc] at hrest
      have hr := run_range m k ([x] ++ rest)
      rw [hrest, ← HG.out] at hr
      have := run_ge ([x] ++ rest) g
      rw [gapV_no HK2.out (by rw [hr]; omega)]
    · gi_wp2
      refine ⟨by simp, .inl ⟨_, _, rfl, run_takeDeferred hK, ?_⟩⟩
      refine ⟨.tuple #[.int .i64 g, .bool true], by simp [results, Tryd.f28, go_sem], ?_, hB.trans (belowK_b (w := w) (Nat.le_refl _) _ D _ _ (by simp at hD; omega) hK rfl rfl)⟩
      obtain ⟨rest, hrest⟩ := HS.out
      rw [HP.out, List.append_assoc] at hrest
      have hr := run_range m k ([x] ++ rest)
      rw [hrest, ← HG.out] at hr
      have hne : x ≠ g := HX.out.resolve_right (by omega)
      rw [show [x] ++ rest = x :: rest from rfl, run, if_neg hne] at hr
      rw [gapV_yes HK2.out hr (by omega)]
theorem gap_any (s : ByteArray) (f e : Int) (hs : s.size ≤ 140737488355328) (hl : -9223372036854775808 ≤ f) (hf : f ≤ 9223372036854775807) (hle : -9223372036854775808 ≤ e) (hfe : e ≤ 9223372036854775807) (w : World) :
    Calls Tryd.prog 28 #[.string s, .int .i64 f, .int .i64 e] w fun r w' => r = .returned (gapV s.data.toList f e) ∧ Below w.heap.size w w' :=
  callsIn_wide.1 (gap_in 6 (by omega) s f e hs hl hf hle hfe w)
end Go.Proofs.YtoafojddochcgaaDoor
