/-
  One instance of a cache, within a call that has made it: what each method answers, which blocks it may turn, and what stays.
-/
import Derived.Test.YtipnbggbejkhkaaCacL
namespace Go.Proofs.Ytipnbggbejkhkaa.CI
open Go.RowKit Go Go.Maps

/-- a cache that the call has made -/
def CX (w0 : World) (F : Nat → Prop) (c room : Nat) (L : List (Int × ByteArray)) (w : World) : Prop := Cach w0.heap.size F c room L w ∧ Below w0.heap.size w0 w
section
variable {w0 w w' : World} {F F' : Nat → Prop} {c room : Nat} {L : List (Int × ByteArray)}
theorem CX.left {L' : List (Int × ByteArray)} (h : CX w0 F c room L w) (k : Left w0.heap.size F c room L' w w') : ∃ F', CX w0 F' c room L' w' ∧ Step F F' w w' := by
  obtain ⟨F', h1, h2, h3⟩ := k
  exact ⟨F', ⟨h1, h.2.trans (h2.below (fun i hi => h.1.low hi) h.2.size)⟩, h2, h3⟩
theorem CX.later (h : CX w0 F c room L w) (k : Below w.heap.size w w') : CX w0 F c room L w' := ⟨h.1.later k, h.2.trans (k.mono h.2.size)⟩
/-- something else has turned -/
theorem CX.stay {G : Nat → Prop} (h : CX w0 F c room L w) (k : Stir G w w') (hn : ∀ i, F i → ¬ G i) (hG : ∀ i, G i → w0.heap.size ≤ i) : CX w0 F c room L w' := ⟨h.1.stay k hn, h.2.trans (k.below hG h.2.size)⟩
theorem CX.lt (h : CX w0 F c room L w) {k : Nat} (hk : F k) : k < w.heap.size := h.1.lt hk
theorem CX.nodup (h : CX w0 F c room L w) : (keysL L).Nodup := by
  obtain ⟨m, r, T, nd, nx, pv, D, hc, rfl, _⟩ := h.1
  have := hc.keys
  unfold keysL
  rw [List.map_map]
  exact this
theorem CX.fits (h : CX w0 F c room L w) : L.length ≤ room ∧ room ≤ 65536 := by
  obtain ⟨m, r, T, nd, nx, pv, D, hc, rfl, _, _, h1, h2⟩ := h.1
  exact ⟨by rw [List.length_map]; exact h1, h2⟩
theorem CX.ok (h : CX w0 F c room L w) : ∀ x ∈ L, Ok x.1 := by
  obtain ⟨m, r, T, nd, nx, pv, D, hc, rfl, _⟩ := h.1
  intro x hx
  obtain ⟨b, hb, rfl⟩ := List.mem_map.1 hx
  exact hc.ok b hb

theorem x_put (h : CX w0 F c room L w) {k : Int} (hk : Ok k) (v : ByteArray) :
    Calls Try.prog 14 #[.pointer (some ⟨c, 0, none⟩), .int .i64 k, .string v] w fun e w' => e = .returned (putV room L k v) ∧ ∃ F', CX w0 F' c room (putL room L k v) w' ∧ Step F F' w w' :=
  (put_any h.1 hk v).mono fun _e _w' ⟨h1, h2⟩ => ⟨h1, h.left h2⟩
theorem x_drop (h : CX w0 F c room L w) {k : Int} (hk : Ok k) :
    Calls Try.prog 16 #[.pointer (some ⟨c, 0, none⟩), .int .i64 k] w fun e w' => e = .returned (.bool (getL L k).isSome) ∧ ∃ F', CX w0 F' c room (dropL L k) w' ∧ Step F F' w w' :=
  (drop_any h.1 hk).mono fun _e _w' ⟨h1, h2⟩ => ⟨h1, h.left h2⟩
/-- what a Get answers -/
def getV (L : List (Int × ByteArray)) (k : Int) : Value := match getL L k with | some s => .tuple #[.string s, .bool true] | none => .tuple #[.string (⟨#[]⟩ : ByteArray), .bool false]
theorem x_get (h : CX w0 F c room L w) {k : Int} (hk : Ok k) :
    Calls Try.prog 12 #[.pointer (some ⟨c, 0, none⟩), .int .i64 k] w fun e w' => e = .returned (getV L k) ∧ ∃ F', CX w0 F' c room (useL L k) w' ∧ Step F F' w w' := by
  unfold getV useL
  cases hg : getL L k with
  | none => exact (get_none h.1 hk hg).mono fun _e _w' ⟨h1, h2⟩ => ⟨h1, h.left h2⟩
  | some v => exact (get_some h.1 hk hg).mono fun _e _w' ⟨h1, h2⟩ => ⟨h1, h.left h2⟩
theorem x_keys (h : CX w0 F c room L w) :
    Calls Try.prog 11 #[.pointer (some ⟨c, 0, none⟩)] w fun e w' => ∃ v, e = .returned v ∧ RowIn F w' w.heap.size 3 1 v (keysL L).length (keyVals (keysL L)) ∧ CX w0 F c room L w' ∧ Below w.heap.size w w' :=
  (keys_any h.1).mono fun _e _w' ⟨v, h1, h2, h3⟩ => ⟨v, h1, ⟨h2, fun k hk hF => by have := (h2.lt k hk).1; have := h.lt hF; omega⟩, h.later h3, h3⟩
theorem x_new (room : Nat) (h1 : 1 ≤ room) (h2 : room ≤ 65536) (hB : Below w0.heap.size w0 w) :
    Calls Try.prog 9 #[.int .i64 room] w fun e w' => ∃ c F, e = .returned (.tuple #[.pointer (some ⟨c, 0, none⟩), .int .i64 0]) ∧ CX w0 F c room [] w' ∧ Below w.heap.size w w' ∧ ∀ k, F k → w.heap.size ≤ k :=
  (new_any room h1 h2 w).mono fun _e _w' ⟨c, F, h1, ⟨m, r, T, nd, nx, pv, D, hc, hL, hF, hlo, h3, h4⟩, h5⟩ =>
    ⟨c, F, h1, ⟨⟨m, r, T, nd, nx, pv, D, hc, hL, hF, fun k hk => Nat.le_trans hB.size (hlo k hk), h3, h4⟩, hB.trans (h5.mono hB.size)⟩, h5, hlo⟩
end
end Go.Proofs.Ytipnbggbejkhkaa.CI
