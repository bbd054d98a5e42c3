/-
  One instance of a pipe: what lies in memory; Send, Take.
-/
import Derived.Test.YtmlemgifejefiaaPipW
import Derived.KernelRfl
import Derived.Laws.Rows
namespace Go.Proofs.Ytmlemgifejefiaa.PI
open Go.RowKit Go Go.Conc

def PObj (c : Nat) (closed : Bool) : Obj := .cells #[.chan (some c), .bool closed] 62 (0, 0)
def ChObj (room : Nat) (bs : List Nat) (s r : Nat) : Obj := .chan room (bs.map ptr).toArray false s r false
def TObj (x : Int) : Obj := .cells #[.int .i64 x] 3 (0, 0)
/-- the blocks hold the things -/
def Holds : List Nat → List Int → World → Prop
  | [], [], _ => True
  | b :: bs, x :: L, w => w.heap[b]? = some (TObj x) ∧ Holds bs L w
  | _, _, _ => False

section
variable {w w' : World} {p c room b s r : Nat} {closed : Bool} {bs : List Nat} {L : List Int} {x : Int}
theorem PObj.c0 (h : w.heap[p]? = some (PObj c closed)) : w.cell? ⟨p, 0, none⟩ = some (.chan (some c)) := by simp [World.cell?, h, PObj]
theorem PObj.c1 (h : w.heap[p]? = some (PObj c closed)) : w.cell? ⟨p, 1, none⟩ = some (.bool closed) := by simp [World.cell?, h, PObj]
theorem PObj.fr (h : w.heap[p]? = some (PObj c closed)) (i : Nat) : w.frozen? ⟨p, i, none⟩ = false := by simp [World.frozen?, h, PObj]
theorem PObj.set1 (h : w.heap[p]? = some (PObj c closed)) (u : Bool) : (w.setCell ⟨p, 1, none⟩ (.bool u)).heap[p]? = some (PObj c u) := by rw [heap_set h]; rfl
theorem TObj.c0 (h : w.heap[b]? = some (TObj x)) : w.cell? ⟨b, 0, none⟩ = some (.int .i64 x) := by simp [World.cell?, h, TObj]
theorem Holds.len : ∀ {bs : List Nat} {L : List Int} {w : World}, Holds bs L w → bs.length = L.length
  | [], [], _, _ => rfl
  | _ :: _, _ :: _, _, h => by simp [Holds.len h.2]
  | [], _ :: _, _, h => h.elim
  | _ :: _, [], _, h => h.elim
theorem Holds.keep {F : Nat → Prop} (k : Stir F w w') (hF : ∀ b x, F b → w.heap[b]? ≠ some (TObj x)) : ∀ {bs : List Nat} {L : List Int}, Holds bs L w → Holds bs L w'
  | [], [], _ => trivial
  | b :: _, x :: _, h => ⟨k.keep h.1 (fun f => hF b x f h.1), Holds.keep k hF h.2⟩
  | [], _ :: _, h => h.elim
  | _ :: _, [], h => h.elim
theorem Holds.snoc : ∀ {bs : List Nat} {L : List Int}, Holds bs L w → w.heap[b]? = some (TObj x) → Holds (bs ++ [b]) (L ++ [x]) w
  | [], [], _, k => ⟨k, trivial⟩
  | _ :: _, _ :: _, h, k => ⟨h.1, Holds.snoc h.2 k⟩
  | [], _ :: _, h, _ => h.elim
  | _ :: _, [], h, _ => h.elim
end

/-- a pipe in memory -/
structure PipeAt (p c room : Nat) (closed : Bool) (L : List Int) (w : World) : Prop where
  obj : w.heap[p]? = some (PObj c closed)
  chan : ∃ bs s r, w.heap[c]? = some (ChObj room bs s r) ∧ Holds bs L w
  fits : L.length ≤ room
  small : room ≤ 4096

section
variable {w w' : World} {p c room : Nat} {closed : Bool} {L : List Int} {x : Int}
theorem PipeAt.ne (h : PipeAt p c room closed L w) : p ≠ c := by
  obtain ⟨bs, s, r, hc, -⟩ := h.chan
  exact ne_of_heap h.obj hc (by intro e; cases e)
theorem PipeAt.lt_p (h : PipeAt p c room closed L w) : p < w.heap.size := lt_of_heap h.obj
theorem PipeAt.lt_c (h : PipeAt p c room closed L w) : c < w.heap.size := by
  obtain ⟨bs, s, r, hc, -⟩ := h.chan
  exact lt_of_heap hc
/-- what turns neither of a pipe's two blocks, nor a thing, leaves it -/
theorem PipeAt.keep {F : Nat → Prop} (h : PipeAt p c room closed L w) (k : Stir F w w') (hp : ¬ F p) (hc : ¬ F c) (hF : ∀ b x, F b → w.heap[b]? ≠ some (TObj x)) : PipeAt p c room closed L w' := by
  obtain ⟨bs, s, r, h1, h2⟩ := h.chan
  exact ⟨k.keep h.obj hp, ⟨bs, s, r, k.keep h1 hc, Holds.keep k hF h2⟩, h.fits, h.small⟩
theorem PipeAt.later (h : PipeAt p c room closed L w) (k : Below w.heap.size w w') : PipeAt p c room closed L w' :=
  h.keep (Stir.of_below (F := fun _ => False) k) (fun f => f) (fun f => f) (fun _ _ f => f.elim)
/-- a pipe's own blocks hold no thing -/
theorem PipeAt.no_thing (h : PipeAt p c room closed L w) (b : Nat) (y : Int) (hb : b = p ∨ b = c) : w.heap[b]? ≠ some (TObj y) := by
  obtain ⟨bs, s, r, h1, h2⟩ := h.chan
  rcases hb with rfl | rfl
  · rw [h.obj]; intro e; have := Option.some.inj e; simp [PObj, TObj] at this
  · rw [h1]; intro e; cases e
end

set_option maxRecDepth 100000 in
/-- a Send into a pipe that has room -/
theorem send_room {w : World} {p c room : Nat} {L : List Int} (h : PipeAt p c room false L w) (hr : L.length < room) (x : Int) :
    Calls Try.prog 12 #[.pointer (some ⟨p, 0, none⟩), .int .i64 x] w fun e w' => e = .returned (.bool true) ∧ PipeAt p c room false (L ++ [x]) w' ∧ Stir (fun k => k = p ∨ k = c) w w' := by
  refine calls_of_loneTo fun cs => ?_
  have e : Frame.enter Try.prog 12 #[.pointer (some ⟨p, 0, none⟩), .int .i64 x] .normal = (base 12).at ⟨#[.pointer (some ⟨p, 0, none⟩), .int .i64 x, undef, undef, undef, undef, undef, undef, undef, undef, undef, undef, undef, undef, undef, undef], []⟩ [.code (Try.f12.body.getD .skip)] := by
    simp [Frame.enter, Frame.at, Try.func12, base, Try.f12]
  rw [e]
  obtain ⟨bs, s, r, hc, hh⟩ := h.chan
  have hp1 := heap_alloc_old h.obj (TObj x)
  have hc1 := heap_alloc_old hc (TObj x)
  have c0 := PObj.c0 hp1
  have c1 := PObj.c1 hp1
  have hfull : (bs.map ptr).toArray.size < room := by simp [hh.len]; exact hr
  have H := Lib.hid h
  have HH := Lib.hid hh
  unfold TObj at c0 c1
  clear h hh hp1 hc e
  refine LoneTo.goes (n := 40) ?_
  simp only [Try.f12, Option.getD_some]
  s_c stepG_seq
  s_reg
  s_op
  s_op
  s_c stepG_region_end
  s_c stepG_seq
  s_c stepG_seq
  s_reg
  s_op
  s_op
  s_op
  s_op
  s_c stepG_region_end
  s_cond false
  s_c stepG_skip
  s_c stepG_seq
  s_reg
  s_op
  s_op
  s_op
  s_op
  s_c stepG_region_end
  s_c stepG_seq
  s_reg
  s_stop
  refine LoneTo.step (step_lone_select_send_room (c := c) (cap := room) (buf := (bs.map ptr).toArray) (s := s) (r := r) (tm := false) (v := ptr w.heap.size) (z' := .pointer none) (w₁ := w.alloc (TObj x)) (stepG_comm (cases := #[scase c (ptr w.heap.size) (.pointer none)]) (blocking := false) (shape := .select) (w' := w.alloc (TObj x)) rfl rfl (by decide) (by simp [go_sem, execOp, scase, Act.eval, ptr, TObj])) hc1 hfull) ?_
  rw [Frame.finish_at]
  walk_nrm
  refine LoneTo.goes (n := 40) ?_
  s_op
  s_op
  s_c stepG_region_end
  s_c stepG_block
  s_cond true
  s_c stepG_seq
  s_reg
  s_op
  s_c stepG_region_end
  s_c stepG_ret'
  s_stop
  refine LoneTo.done ⟨.returned (.bool true), _, rfl, ⟨rfl, ?_, ?_⟩, rfl, rfl, rfl, rfl, _, Try.func12, by simp [results, Try.f12, Frame.at]⟩
  · have hb : w.heap.size ≠ c := by have := H.out.lt_c; omega
    have hS : Stir (fun k => k = c) (w.alloc (TObj x)) ((w.alloc (TObj x)).setChan c room ((bs.map ptr).toArray.push (ptr w.heap.size)) false (s + 1) r false) := (Stir.refl (fun k => k = c) _).setChan (Or.inl rfl) _ _ _ _ _ _
    have h1 := H.out.later ((Below.refl _ w).alloc (Nat.le_refl _) (TObj x))
    have hn : ∀ b y, b = c → (w.alloc (TObj x)).heap[b]? ≠ some (TObj y) := fun b y e => h1.no_thing b y (Or.inr e)
    rw [show (bs.map ptr).toArray.push (ptr w.heap.size) = (bs.map ptr ++ [ptr w.heap.size]).toArray by simp] at hS
    refine ⟨hS.keep h1.obj h1.ne, ⟨bs ++ [w.heap.size], s + 1, r, ?_, ?_⟩, by simp; omega, h1.small⟩
    · rw [setChan_here hc1]; simp [ChObj]
    · exact Holds.keep hS hn (Holds.snoc (Holds.keep (Stir.alloc (Stir.refl (fun _ => False) w) _) (fun _ _ f => f.elim) HH.out) (heap_alloc_new w _))
  · exact (Stir.alloc (Stir.refl _ w) _).setChan (Or.inl (Or.inr rfl)) _ _ _ _ _ _

set_option maxRecDepth 100000 in
/-- a Send into a pipe that is full -/
theorem send_full {w : World} {p c room : Nat} {L : List Int} (h : PipeAt p c room false L w) (hr : L.length = room) (x : Int) :
    Calls Try.prog 12 #[.pointer (some ⟨p, 0, none⟩), .int .i64 x] w fun e w' => e = .returned (.bool false) ∧ Below w.heap.size w w' := by
  refine calls_of_loneTo fun cs => ?_
  have e : Frame.enter Try.prog 12 #[.pointer (some ⟨p, 0, none⟩), .int .i64 x] .normal = (base 12).at ⟨#[.pointer (some ⟨p, 0, none⟩), .int .i64 x, undef, undef, undef, undef, undef, undef, undef, undef, undef, undef, undef, undef, undef, undef], []⟩ [.code (Try.f12.body.getD .skip)] := by
    simp [Frame.enter, Frame.at, Try.func12, base, Try.f12]
  rw [e]
  obtain ⟨bs, s, r, hc, hh⟩ := h.chan
  have hp1 := heap_alloc_old h.obj (TObj x)
  have hc1 := heap_alloc_old hc (TObj x)
  have c0 := PObj.c0 hp1
  have c1 := PObj.c1 hp1
  have hfull : room ≤ (bs.map ptr).toArray.size := by simp [hh.len]; omega
  unfold TObj at c0 c1
  clear h hh hp1 hc e
  refine LoneTo.goes (n := 40) ?_
  simp only [Try.f12, Option.getD_some]
  s_c stepG_seq
  s_reg
  s_op
  s_op
  s_c stepG_region_end
  s_c stepG_seq
  s_c stepG_seq
  s_reg
  s_op
  s_op
  s_op
  s_op
  s_c stepG_region_end
  s_cond false
  s_c stepG_skip
  s_c stepG_seq
  s_reg
  s_op
  s_op
  s_op
  s_op
  s_c stepG_region_end
  s_c stepG_seq
  s_reg
  s_stop
  refine LoneTo.step (step_lone_select_send_full (c := c) (cap := room) (buf := (bs.map ptr).toArray) (s := s) (r := r) (tm := false) (v := ptr w.heap.size) (z' := .pointer none) (w₁ := w.alloc (TObj x)) (stepG_comm (cases := #[scase c (ptr w.heap.size) (.pointer none)]) (blocking := false) (shape := .select) (w' := w.alloc (TObj x)) rfl rfl (by decide) (by simp [go_sem, execOp, scase, Act.eval, ptr, TObj])) hc1 hfull) ?_
  rw [Frame.finish_at]
  walk_nrm
  refine LoneTo.goes (n := 40) ?_
  s_op
  s_op
  s_c stepG_region_end
  s_c stepG_block
  s_cond false
  s_c stepG_seq
  s_reg
  s_op
  s_c stepG_region_end
  s_c stepG_ret'
  s_stop
  exact LoneTo.done ⟨.returned (.bool false), _, rfl, ⟨rfl, (Below.refl _ w).alloc (Nat.le_refl _) _⟩, rfl, rfl, rfl, rfl, _, Try.func12, by simp [results, Try.f12, Frame.at]⟩

/-- a Send into a pipe that is closed -/
theorem send_shut {w : World} {p c room : Nat} {L : List Int} (h : PipeAt p c room true L w) (x : Int) :
    Calls Try.prog 12 #[.pointer (some ⟨p, 0, none⟩), .int .i64 x] w fun e w' => e = .returned (.bool false) ∧ Below w.heap.size w w' := by
  have hp1 := heap_alloc_old h.obj (TObj x)
  have c1 := PObj.c1 hp1
  unfold TObj at c1
  clear h hp1
  go_enter Try.func12, Try.ntmps12
  go_wp2
  go_ret
  exact ⟨rfl, (Below.refl _ w).alloc (Nat.le_refl _) _⟩

set_option maxRecDepth 100000 in
/-- a Take from a pipe that has a thing -/
theorem take_some {w : World} {p c room : Nat} {closed : Bool} {L : List Int} {x : Int} (h : PipeAt p c room closed (x :: L) w) :
    Calls Try.prog 14 #[.pointer (some ⟨p, 0, none⟩)] w fun e w' => e = .returned (.tuple #[.int .i64 x, .bool true]) ∧ PipeAt p c room closed L w' ∧ Stir (fun k => k = p ∨ k = c) w w' := by
  refine calls_of_loneTo fun cs => ?_
  have e : Frame.enter Try.prog 14 #[.pointer (some ⟨p, 0, none⟩)] .normal = (base 14).at ⟨#[.pointer (some ⟨p, 0, none⟩), undef, undef, undef, undef, undef, undef, undef, undef, undef, undef, undef, undef, undef, undef, undef, undef, undef], []⟩ [.code (Try.f14.body.getD .skip)] := by
    simp [Frame.enter, Frame.at, Try.func14, base, Try.f14]
  rw [e]
  obtain ⟨bs, s, r, hc, hh⟩ := h.chan
  have c0 := PObj.c0 h.obj
  obtain ⟨b, bs, rfl⟩ : ∃ b bs', bs = b :: bs' := by
    cases bs with
    | nil => exact hh.elim
    | cons b bs => exact ⟨b, bs, rfl⟩
  have hS : Stir (fun k => k = c) w (w.setChan c room (((b :: bs).map ptr).toArray.extract 1 ((b :: bs).map ptr).toArray.size) false s (r + 1) false) := (Stir.refl (fun k => k = c) _).setChan (Or.inl rfl) _ _ _ _ _ _
  have hn : ∀ b y, b = c → w.heap[b]? ≠ some (TObj y) := fun b y e => h.no_thing b y (Or.inr e)
  have hx := TObj.c0 (hS.keep hh.1 (fun f => hn b x f hh.1))
  have hp1 := hS.keep h.obj h.ne
  have hc1 := setChan_here hc room (((b :: bs).map ptr).toArray.extract 1 ((b :: bs).map ptr).toArray.size) false s (r + 1) false
  have hh1 := Holds.keep hS hn hh.2
  obtain ⟨w1, hw1⟩ : ∃ w1, w.setChan c room (((b :: bs).map ptr).toArray.extract 1 ((b :: bs).map ptr).toArray.size) false s (r + 1) false = w1 := ⟨_, rfl⟩
  rw [hw1] at hS hx hp1 hc1 hh1
  have hfull : 0 < ((b :: bs).map ptr).toArray.size := by simp
  have HF := Lib.hid h.fits
  have HM := Lib.hid h.small
  have HS := Lib.hid hS
  have HC := Lib.hid hc1
  have HP := Lib.hid hp1
  have HH := Lib.hid hh1
  have HN := Lib.hid h.ne
  clear h hh e hS hc1 hp1 hh1 hn
  refine LoneTo.goes (n := 40) ?_
  simp only [Try.f14, Option.getD_some]
  s_c stepG_seq
  s_reg
  s_op
  s_op
  s_c stepG_region_end
  s_c stepG_seq
  s_reg
  s_op
  s_op
  s_op
  s_op
  s_c stepG_region_end
  s_c stepG_seq
  s_reg
  s_stop
  refine LoneTo.step (step_lone_select_recv_buf (c := c) (cap := room) (buf := ((b :: bs).map ptr).toArray) (closed := false) (s := s) (r := r) (tm := false) (z := .pointer none) (w₁ := w) (stepG_comm (cases := #[rcase c (.pointer none)]) (blocking := false) (shape := .select) (w' := w) rfl rfl (by decide) (by simp [go_sem, execOp, rcase, Act.eval])) hc hfull) ?_
  rw [Frame.finish_at, hw1, show ((b :: bs).map ptr).toArray.getD 0 undef = .pointer (some ⟨b, 0, none⟩) from rfl]
  walk_nrm
  clear hw1 hc c0 hfull
  refine LoneTo.goes (n := 40) ?_
  s_op
  s_op
  s_c stepG_region_end
  s_c stepG_block
  s_cond true
  s_c stepG_seq
  s_reg
  s_op
  s_op
  s_c stepG_region_end
  s_c stepG_seq
  s_reg
  s_op
  s_op
  s_op
  s_op
  s_op
  s_c stepG_region_end
  s_c stepG_ret'
  s_stop
  refine LoneTo.done ⟨.returned (.tuple #[.int .i64 x, .bool true]), _, rfl, ⟨rfl, ?_, ?_⟩, rfl, rfl, rfl, rfl, _, Try.func14, by simp [results, Try.f14, Frame.at]⟩
  · refine ⟨HP.out, ⟨bs, s, r + 1, ?_, HH.out⟩, by have := HF.out; simp at this; omega, HM.out⟩
    rw [HC.out]; simp [ChObj, List.take_of_length_le]
  · exact HS.out.weaken (fun k e => Or.inr e)

set_option maxRecDepth 100000 in
/-- a Take from a pipe that has none -/
theorem take_none {w : World} {p c room : Nat} {closed : Bool} (h : PipeAt p c room closed [] w) :
    Calls Try.prog 14 #[.pointer (some ⟨p, 0, none⟩)] w fun e w' => e = .returned (.tuple #[.int .i64 (0 : Int), .bool false]) ∧ w' = w := by
  refine calls_of_loneTo fun cs => ?_
  have e : Frame.enter Try.prog 14 #[.pointer (some ⟨p, 0, none⟩)] .normal = (base 14).at ⟨#[.pointer (some ⟨p, 0, none⟩), undef, undef, undef, undef, undef, undef, undef, undef, undef, undef, undef, undef, undef, undef, undef, undef, undef], []⟩ [.code (Try.f14.body.getD .skip)] := by
    simp [Frame.enter, Frame.at, Try.func14, base, Try.f14]
  rw [e]
  obtain ⟨bs, s, r, hc, hh⟩ := h.chan
  have c0 := PObj.c0 h.obj
  obtain rfl : bs = [] := by
    cases bs with
    | nil => rfl
    | cons b bs => exact hh.elim
  clear h hh e
  refine LoneTo.goes (n := 40) ?_
  simp only [Try.f14, Option.getD_some]
  s_c stepG_seq
  s_reg
  s_op
  s_op
  s_c stepG_region_end
  s_c stepG_seq
  s_reg
  s_op
  s_op
  s_op
  s_op
  s_c stepG_region_end
  s_c stepG_seq
  s_reg
  s_stop
  refine LoneTo.step (step_lone_select_default (c := c) (cap := room) (s := s) (r := r) (tm := false) (z := .pointer none) (w₁ := w) (stepG_comm (cases := #[rcase c (.pointer none)]) (blocking := false) (shape := .select) (w' := w) rfl rfl (by decide) (by simp [go_sem, execOp, rcase, Act.eval])) hc) ?_
  rw [Frame.finish_at]
  walk_nrm
  refine LoneTo.goes (n := 40) ?_
  s_op
  s_op
  s_c stepG_region_end
  s_c stepG_block
  s_cond false
  s_c stepG_seq
  s_reg
  s_op
  s_c stepG_region_end
  s_c stepG_seq
  s_reg
  s_op
  s_op
  s_op
  s_c stepG_region_end
  s_c stepG_ret'
  s_stop
  exact LoneTo.done ⟨.returned (.tuple #[.int .i64 (0 : Int), .bool false]), _, rfl, ⟨rfl, rfl⟩, rfl, rfl, rfl, rfl, _, Try.func14, by simp [results, Try.f14, Frame.at]⟩
end Go.Proofs.Ytmlemgifejefiaa.PI
