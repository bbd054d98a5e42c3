/-
  Next: the first number of a set from one on.
-/
import Derived.Test.YtknfakaklmpboaaSetsE
namespace Go.Proofs.Ytknfakaklmpboaa
open Go.RowKit Go.Shelf Go SM
attribute [local go_sem] Oper.semAt_some

theorem boxed_put {W : World} {B : Nat} {t : TypeId} {v : Value} (h : Boxed W B t v) {D : Nat} {o : Obj} (o' : Obj) (hK : W.heap[D]? = some o) (hc : o.isCells = false) : Boxed (W.putObj D o') B t v :=
  KeepB.put (l := [(B, t, v)]) W D o o' hK hc (B, t, v) (by simp) h
theorem boxed_ownFrom {β : Type} (n B : Nat) (t : TypeId) (f : β → Value) : OwnFrom n (fun s W => Boxed W B t (f s)) := Own.from (boxed_own _ _ _) _

/-- what Next answers -/
def nextV (l : List UInt8) (from_ : Int) : Value :=
  match (nums l from_.toNat).head? with
  | some x => .tuple #[.int .i64 x, .bool true]
  | none => .tuple #[.int .i64 0, .bool false]

set_option maxRecDepth 100000 in
set_option maxHeartbeats 2000000 in
theorem next_in (n : Nat) (hn : 6 ≤ n) (s : ByteArray) (f : Int) (hs : s.size ≤ 140737488355328) (hl : -9223372036854775808 ≤ f) (hf : f ≤ 9223372036854775807) (w : World) :
    CallsIn Fence.wide n Try.prog 24 #[.string s, .int .i64 f] w fun e w' => e = .returned (nextV s.data.toList f) ∧ Below w.heap.size w w' := by
  have h1 : 1 ≤ n := by omega
  have hro : Fence.wide.round = none := rfl
  refine callsIn_of_wp_marks Try.func24 rfl trivial ?_ hro
  simp only [Try.ntmps24, List.size_toArray, List.length_cons, List.length_nil, Nat.reduceAdd, Nat.reduceSub, Array.replicate_succ, Array.replicate_zero, List.push_toArray, List.append_toArray, List.nil_append, List.cons_append]
  gi_wp2_with (refine ⟨trivial, ?_⟩; gi_at_call 26; refine (numbers_in _ _ _ _).mono ?_; rintro e w' ⟨rfl, rfl⟩)
  have hm : max f 0 = ((f.toNat : Nat) : Int) := by omega
  rw [hm]
  clear hm
  have bR := Boxed.new w 3 (.int .i64 0)
  have bK := Boxed.new (w.alloc (.cells #[.int .i64 0] 3)) 4 (.bool false)
  have bS := Boxed.new ((w.alloc (.cells #[.int .i64 0] 3)).alloc (.cells #[.bool false] 4)) 9 (.string s)
  have bF := Boxed.new (((w.alloc (.cells #[.int .i64 0] 3)).alloc (.cells #[.bool false] 4)).alloc (.cells #[.string s] 9)) 3 (.int .i64 (f.toNat : Nat))
  simp only [World.size_alloc] at bK bS bF
  have hB0 : Below w.heap.size w ((((w.alloc (.cells #[.int .i64 0] 3)).alloc (.cells #[.bool false] 4)).alloc (.cells #[.string s] 9)).alloc (.cells #[.int .i64 (f.toNat : Nat)] 3)) := ((((Below.refl _ w).alloc (Nat.le_refl _) _).alloc (by simp) _).alloc (by simp; omega) _).alloc (by simp; omega) _
  refine wpIn_rangeFunc_ownG hro h1 (gf := 27) (lb := #[.pointer (some ⟨w.heap.size + 1 + 1 + 1, 0, none⟩), .pointer (some ⟨w.heap.size + 1 + 1, 0, none⟩)]) rfl trivial (enters_of Try.func27 (by kernel_rfl) rfl)
    (numbers_stops (n - 1) (by omega) (w.heap.size + 1 + 1 + 1) (w.heap.size + 1 + 1) s f.toNat (by omega) (by omega) _ bF (bS.alloc _)) KeepB.trans (fun W l o o' _ h1 h2 _ => KeepB.put W l o o' h1 h2) (Below.refl _ _) (fun _ => rfl)
    (fun pre W => pre = [] ∧ Boxed W w.heap.size 3 (.int .i64 0) ∧ Boxed W (w.heap.size + 1) 4 (.bool false) ∧ Below w.heap.size w W)
    (fun c pre W => c = .ret ∧ ∃ x : Nat, pre = [x] ∧ Boxed W w.heap.size 3 (.int .i64 x) ∧ Boxed W (w.heap.size + 1) 4 (.bool true) ∧ Below w.heap.size w W)
    (OwnFrom.and (ownFrom_pure _ _) (OwnFrom.and (Own.from (boxed_own _ _ _) _) (OwnFrom.and (Own.from (boxed_own _ _ _) _) (ownFrom_below (Nat.le_refl _) (by simp; omega)))))
    (fun c pre A B row hs hg hr => by
      obtain ⟨hc, x, hx, h1, h2, h3⟩ := hs
      exact ⟨hc, x, hx, boxed_ownFrom _ _ _ (fun _ : Unit => _) () A B row h1 hg hr, boxed_ownFrom _ _ _ (fun _ : Unit => _) () A B row h2 hg hr, ownFrom_below (β := Unit) (Nat.le_refl _) (by simp; omega) () A B row h3 hg hr⟩)
    ⟨rfl, ((bR.alloc _).alloc _).alloc _, (bK.alloc _).alloc _, hB0⟩
    (fun x => { tmps := #[.string s, .int .i64 f, undef, undef, .pointer (some ⟨w.heap.size, 0, none⟩), .pointer (some ⟨w.heap.size + 1, 0, none⟩), .int .i64 x, .string s, .int .i64 f, .func (.func 27) #[] #[.pointer (some ⟨w.heap.size + 1 + 1 + 1, 0, none⟩), .pointer (some ⟨w.heap.size + 1 + 1, 0, none⟩)], .int .i64 x, undef], defers := [] }) ?assign ?body ?done ?stop
  case assign =>
    intro l x W K hK
    gi_wp2
    exact hK
  case body =>
    rintro l pre x W ⟨rfl, hr, hk, hB⟩ hlt
    have hc1 := hr.cell
    have hc2 := hk.cell
    have hf1 := hr.frozen
    have hf2 := hk.frozen
    gi_wp2
    exact ⟨((KeepsOthers.setCell _ _ _).trans (KeepsOthers.setCell _ _ _)).from _, rfl, x, rfl, (hr.set _).other (by omega) _, (hk.other (by omega) _).set _,
      hB.trans (((Below.refl _ W).setCell (p := ⟨w.heap.size, 0, none⟩) (Nat.le_refl _) _).setCell (p := ⟨w.heap.size + 1, 0, none⟩) (by simp) _)⟩
  case done =>
    rintro D ys W hD rfl ⟨hnil, hr, hk, hB⟩ hK
    have hc1 := hr.cell
    have hc2 := hk.cell
    have hf1 := hr.frozen
    have hf2 := hk.frozen
    have HN := Lib.hid hnil
    clear hnil
    gi_wp2
    have hK' := ((KeepsOthers.setCell W ⟨w.heap.size, 0, none⟩ (.int .i64 0)).trans (KeepsOthers.setCell _ ⟨w.heap.size + 1, 0, none⟩ (.bool false))).same D _ hK rfl
    have c1 := (boxed_put ((hr.set (.int .i64 0)).other (B' := w.heap.size + 1) (by omega) (.bool false)) (.deferred none) hK' rfl).cell
    have c2 := (boxed_put ((hk.other (B' := w.heap.size) (by omega) (.int .i64 0)).set (.bool false)) (.deferred none) hK' rfl).cell
    refine ⟨by simp, .inl ⟨_, _, rfl, run_takeDeferred hK', ?_⟩⟩
    refine ⟨.tuple #[.int .i64 0, .bool false], by simp [results, Try.f24, go_sem, c1, c2], by simp [nextV, HN.out], ?_⟩
    exact hB.trans ((((Below.refl _ W).setCell (p := ⟨w.heap.size, 0, none⟩) (Nat.le_refl _) _).setCell (p := ⟨w.heap.size + 1, 0, none⟩) (by simp) _).trans (belowK_b (w := w) (Nat.le_refl _) _ D _ _ (by simp at hD; omega) hK' rfl rfl))
  case stop =>
    rintro D c pre W hD hSp ⟨rfl, x, rfl, hr, hk, hB⟩ hK
    have HS := Lib.hid hSp
    clear hSp
    gi_wp2
    have c1 := (boxed_put hr (.deferred none) hK rfl).cell
    have c2 := (boxed_put hk (.deferred none) hK rfl).cell
    obtain ⟨rest, hrest⟩ := HS.out
    refine ⟨by simp, .inl ⟨_, _, rfl, run_takeDeferred hK, ?_⟩⟩
    refine ⟨.tuple #[.int .i64 x, .bool true], by simp [results, Try.f24, go_sem, c1, c2], by simp [nextV, ← hrest], ?_⟩
    exact hB.trans (belowK_b (w := w) (Nat.le_refl _) _ D _ _ (by simp at hD; omega) hK rfl rfl)

theorem next_any (s : ByteArray) (f : Int) (hs : s.size ≤ 140737488355328) (hl : -9223372036854775808 ≤ f) (hf : f ≤ 9223372036854775807) (w : World) :
    Calls Try.prog 24 #[.string s, .int .i64 f] w fun e w' => e = .returned (nextV s.data.toList f) ∧ Below w.heap.size w w' :=
  callsIn_wide.1 (next_in 6 (by omega) s f hs hl hf w)
end Go.Proofs.Ytknfakaklmpboaa

