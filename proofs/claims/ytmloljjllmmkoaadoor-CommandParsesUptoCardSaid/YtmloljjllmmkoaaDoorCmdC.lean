/-
  A command as a value; a field's word laid and read.
-/
import Derived.Test.YtmloljjllmmkoaaDoorCmdB
namespace Go.Proofs.YtmloljjllmmkoaaDoor
open Go.RowKit Go

def cmdV (c : Cmd) : Value := .agg #[.int .i64 c.kind, .string c.path, .string c.dest, .int .i64 c.place, .string c.data]
def CmdObj (c : Cmd) : Obj := .cells #[.int .i64 c.kind, .string c.path, .string c.dest, .int .i64 c.place, .string c.data] 30
structure CmdAt (c : Cmd) (b : Nat) (w : World) : Prop where
  obj : w.heap[b]? = some (CmdObj c)
theorem CmdAt.cells {c : Cmd} {b : Nat} {w : World} (h : CmdAt c b w) : w.cell? ⟨b, 0, none⟩ = some (.int .i64 c.kind) ∧ w.cell? ⟨b, 1, none⟩ = some (.string c.path) ∧ w.cell? ⟨b, 2, none⟩ = some (.string c.dest) ∧ w.cell? ⟨b, 3, none⟩ = some (.int .i64 c.place) ∧ w.cell? ⟨b, 4, none⟩ = some (.string c.data) := by
  have := h.obj
  unfold CmdObj at this
  refine ⟨?_, ?_, ?_, ?_, ?_⟩ <;> simp [World.cell?, this]
theorem CmdAt.fr {c : Cmd} {b : Nat} {w : World} (h : CmdAt c b w) (i : Nat) : w.frozen? ⟨b, i, none⟩ = false := by
  have := h.obj
  unfold CmdObj at this
  simp [World.frozen?, this]
theorem CmdAt.later {c : Cmd} {b : Nat} {w w' : World} (h : CmdAt c b w) (hB : Below w.heap.size w w') : CmdAt c b w' := ⟨keeps_of hB h.obj⟩
theorem CmdAt.new (w : World) (c : Cmd) : CmdAt c w.heap.size (w.alloc (CmdObj c)) := ⟨heap_alloc_new _ _⟩
/-- a command within bounds -/
structure CmdIn (c : Cmd) : Prop where
  kind : IntOk c.kind
  place : IntOk c.place
  path : c.path.size ≤ 281474976710656
  dest : c.dest.size ≤ 281474976710656
  data : c.data.size ≤ 281474976710656
set_option maxRecDepth 100000 in
theorem fldLay_any (f : Fld) (c : Cmd) (hc : CmdIn c) (hd : c.data.size ≤ 512) (w : World) (hg : GE w) :
    Calls Tryd.prog 34 #[.int .i64 (fldN f), cmdV c] w fun e w' => e = .returned (.string (fldLay c f)) ∧ Below w.heap.size w w' := by
  obtain ⟨w1, hw1⟩ : ∃ w1, w.alloc (CmdObj c) = w1 := ⟨_, rfl⟩
  have hat : CmdAt c w.heap.size w1 := by rw [← hw1]; exact .new _ _
  have hB1 : Below w.heap.size w w1 := by rw [← hw1]; exact (Below.refl _ w).alloc (Nat.le_refl _) _
  obtain ⟨c0, c1, c2, c3, c4⟩ := hat.cells
  have hg1 := hg.below hB1
  have CI := itoa_any c.place hc.place w1 hg1
  have CD := layData_any c.data (by omega) w1
  have hsz := hB1.size
  unfold cmdV
  unfold CmdObj at hw1
  have HB := Lib.hid hB1
  clear hat hg hg1 hB1 hc hd
  cases f with
  | path =>
    clear CI CD
    show Calls _ _ #[.int .i64 0, _] w _
    go_enter Tryd.func34, Tryd.ntmps34
    go_wp2
    go_ret
    exact ⟨rfl, HB.out⟩
  | name =>
    clear CI CD
    show Calls _ _ #[.int .i64 1, _] w _
    go_enter Tryd.func34, Tryd.ntmps34
    go_wp2
    go_ret
    exact ⟨rfl, HB.out⟩
  | dest =>
    clear CI CD
    show Calls _ _ #[.int .i64 2, _] w _
    go_enter Tryd.func34, Tryd.ntmps34
    go_wp2
    go_ret
    exact ⟨rfl, HB.out⟩
  | place =>
    clear CD
    show Calls _ _ #[.int .i64 3, _] w _
    go_enter Tryd.func34, Tryd.ntmps34
    go_wp2_with fail
    refine CI.mono ?_
    rintro e w2 ⟨rfl, hB2⟩
    have HB2 := Lib.hid (HB.out.trans (hB2.mono hsz))
    clear hB2
    go_wp2
    go_ret
    exact ⟨rfl, HB2.out⟩
  | data =>
    clear CI
    show Calls _ _ #[.int .i64 4, _] w _
    go_enter Tryd.func34, Tryd.ntmps34
    go_wp2_with fail
    refine CD.mono ?_
    rintro e w2 ⟨rfl, hB2⟩
    have HB2 := Lib.hid (HB.out.trans (hB2.mono hsz))
    clear hB2
    go_wp2
    go_ret
    exact ⟨rfl, HB2.out⟩

/-! ### Reading a field -/
/-- what reading a field from a word answers, and leaves of the command -/
def FldE (w : ByteArray) (c : Cmd) (f : Fld) (b : Nat) (e : Ending) (W : World) : Prop :=
  (∃ d, FldRd w c f d ∧ e = .returned (.bool true) ∧ CmdAt d b W) ∨ ((∀ d, ¬ FldRd w c f d) ∧ e = .returned (.bool false) ∧ ∃ d, CmdAt d b W)
theorem cmd_set1 {c : Cmd} {b : Nat} {w : World} (h : CmdAt c b w) (x : ByteArray) : CmdAt { c with path := x } b (w.setCell ⟨b, 1, none⟩ (.string x)) := by
  refine ⟨?_⟩
  have := h.obj
  unfold CmdObj at this ⊢
  rw [heap_set this]; rfl
theorem cmd_set2 {c : Cmd} {b : Nat} {w : World} (h : CmdAt c b w) (x : ByteArray) : CmdAt { c with dest := x } b (w.setCell ⟨b, 2, none⟩ (.string x)) := by
  refine ⟨?_⟩
  have := h.obj
  unfold CmdObj at this ⊢
  rw [heap_set this]; rfl
theorem cmd_set3 {c : Cmd} {b : Nat} {w : World} (h : CmdAt c b w) (x : Int) : CmdAt { c with place := x } b (w.setCell ⟨b, 3, none⟩ (.int .i64 x)) := by
  refine ⟨?_⟩
  have := h.obj
  unfold CmdObj at this ⊢
  rw [heap_set this]; rfl
theorem cmd_set4 {c : Cmd} {b : Nat} {w : World} (h : CmdAt c b w) (x : ByteArray) : CmdAt { c with data := x } b (w.setCell ⟨b, 4, none⟩ (.string x)) := by
  refine ⟨?_⟩
  have := h.obj
  unfold CmdObj at this ⊢
  rw [heap_set this]; rfl
/-- what readAt answers -/
def AtE (s : ByteArray) (e : Ending) : Prop := ∃ n ok, e = .returned (.tuple #[.int .i64 n, .bool ok]) ∧ ((ok = true ∧ AtW n s) ∨ (ok = false ∧ ∀ m, ¬ AtW m s))
set_option maxRecDepth 100000 in
theorem readAt_any (s : ByteArray) (hs : s.size ≤ 281474976710656) (w : World) (hg : GE w) :
    Calls Tryd.prog 49 #[.string s] w fun e w' => AtE s e ∧ Below w.heap.size w w' := by
  have CA := atoi_any s hs w hg
  have HG := Lib.hid hg
  clear hg
  go_enter Tryd.func49, Tryd.ntmps49
  go_wp2_with fail
  refine CA.mono ?_
  rintro e w1 ⟨n, err, rfl, hn, hv, hB1⟩
  have HV := Lib.hid hv
  have HB1 := Lib.hid hB1
  have CI := itoa_any n hn w1 (HG.out.below hB1)
  have hsz := hB1.size
  obtain ⟨T, hT⟩ : ∃ T, bs (Lib.itoa n) = T := ⟨_, rfl⟩
  rw [hT] at CI
  have HT := Lib.hid (show Lib.itoa n = T.data.toList by rw [← hT, bs_list])
  have HU := Lib.hid (show ∀ m, AtW m s → n = m from fun m h => hv m h.atoi)
  clear hv hB1 CA hn hT
  have HN := Lib.hid (show ¬ (0 ≤ n ∧ n ≤ 16384 ∧ Lib.itoa n = s.data.toList) → ∀ m, ¬ AtW m s from fun h m k => by
    have := HU.out m k
    subst this
    exact h k)
  by_cases h0 : 0 ≤ n
  · by_cases h1 : n ≤ 16384
    · by_cases h2 : T.toList = s.toList
      · have b2 : (T.toList == s.toList) = true := beq_iff_eq.2 h2
        have HE := Lib.hid (show AtW n s from ⟨h0, h1, by rw [HT.out, ← toList_eq, h2, toList_eq]⟩)
        clear h2
        go_wp2_with (refine CI.mono ?_; rintro e w2 ⟨rfl, hB2⟩; have HB2 := Lib.hid (HB1.out.trans (hB2.mono hsz)); clear hB2)
        go_ret2
        exact ⟨⟨n, true, rfl, .inl ⟨rfl, HE.out⟩⟩, HB2.out⟩
      · have b2 : (T.toList == s.toList) = false := beq_eq_false_iff_ne.2 h2
        have HE := Lib.hid (HN.out fun k => h2 (by rw [toList_eq, toList_eq, ← HT.out, k.2.2]))
        clear h2
        go_wp2_with (refine CI.mono ?_; rintro e w2 ⟨rfl, hB2⟩; have HB2 := Lib.hid (HB1.out.trans (hB2.mono hsz)); clear hB2)
        go_ret2
        exact ⟨⟨n, false, rfl, .inr ⟨rfl, HE.out⟩⟩, HB2.out⟩
    · have HE := Lib.hid (HN.out fun k => h1 k.2.1)
      clear CI
      go_wp2
      go_ret2
      exact ⟨⟨n, false, rfl, .inr ⟨rfl, HE.out⟩⟩, HB1.out⟩
  · have HE := Lib.hid (HN.out fun k => h0 k.1)
    clear CI
    go_wp2
    go_ret2
    exact ⟨⟨n, false, rfl, .inr ⟨rfl, HE.out⟩⟩, HB1.out⟩
end Go.Proofs.YtmloljjllmmkoaaDoor

