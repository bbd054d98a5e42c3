/-
  DskE / DskN / DskO / DskP / DskT / DskF / DskQ / DskV / DskR.
-/
import Derived.Test.YtmloljjllmmkoaaGreatMB
import Derived.Shelf.SlMaps.Clone
import Derived.Lib.ConvBytes
import Derived.Lib.SliceRun
import Derived.OwnWalk
import Derived.LoopNIn
import Derived.Test.YtmloljjllmmkoaaGreatMA
import Derived.Laws.OwnMore
namespace Go.Proofs.YtmloljjllmmkoaaGreat
open Go.RowKit Go Go.Maps SM

section
variable {b g cap m : Nat} {B : ByteArray} {a : Int} {s : DS} {cur : Array Value} {D : DataW Unit} {w w' : World}

/-! ### Arm -/
end
end Go.Proofs.YtmloljjllmmkoaaGreat

namespace Go.Proofs.YtmloljjllmmkoaaGreat
open Go.RowKit Go Go.Maps SM

section
variable {b g cap m : Nat} {B : ByteArray} {a : Int} {s : DS} {cur : Array Value} {D : DataW Unit} {w w' : World}

theorem over_any (g N cap : Nat) (w : World) :
    Calls Tryz.prog 38 #[.slice (some ⟨g, 0, none⟩) N cap] w fun e w' => e = .returned (.pointer (some ⟨w.heap.size + 1, 0, none⟩)) ∧ (w.alloc (.map #[] 0)).alloc (.cells #[.slice (some ⟨g, 0, none⟩) N cap, .map (some w.heap.size), .string ⟨#[]⟩, .int .i64 0, .int .i64 0, .string ⟨#[]⟩, .bool false] 153) = w' := by
  have hmm := @run_makeMap Tryz.prog
  go_enter Tryz.func38, Tryz.ntmps38
  go_wp2
  go_ret
  exact ⟨rfl, rfl⟩

/-! ### a copy of a row, of a map -/
/-! ### New -/
def zero64 : ByteArray := ⟨(List.replicate 64 (0 : UInt8)).toArray⟩
theorem size_zero64 : zero64.size = 64 := by simp [zero64, ByteArray.size]
def blank (n : Nat) : List ByteArray := List.replicate n zero64
theorem blank_size (n : Nat) : ∀ b ∈ blank n, b.size = 64 := fun b hb => by rw [List.eq_of_mem_replicate hb]; exact size_zero64
theorem flat_blank : ∀ n : Nat, flat (blank n) = List.replicate (64 * n) (0 : UInt8)
  | 0 => rfl
  | n + 1 => by
    have h := flat_blank n
    show flat (zero64 :: blank n) = _
    rw [flat_cons, h, show 64 * (n + 1) = 64 + 64 * n by omega, ← List.replicate_append_replicate]
    simp [zero64]
theorem blank_ok {n : Nat} (h1 : 1 ≤ n) (h2 : n ≤ 16384) : (fresh (blank n)).Ok := fresh_ok (by simpa [blank] using h1) (by simpa [blank] using h2) (blank_size n)
theorem made_bytes (k : Nat) : (madeCells #[.int .u8 0] k).toList = Lib.byteCells (List.replicate k (0 : UInt8)) := by
  rw [toList_madeCells_one]; simp [Lib.byteCells]
theorem made_row (w : World) (k : Nat) (h : k ≤ 1048640) : RowIs w.heap.size k (List.replicate k (0 : UInt8)) (w.alloc (.cells (madeCells #[.int .u8 0] k) 5)) (madeCells #[.int .u8 0] k) :=
  ⟨⟨_, heap_alloc_new _ _, .inl rfl⟩, size_madeCells _ _, by unfold maxLen; omega, by simp, by rw [made_bytes, List.length_replicate, List.take_of_length_le (by rw [Lib.byteCells_length]; simp)]⟩

/-- what a new disk's blocks are -/
theorem disk_new {w1 : World} {st : List ByteArray} (hok : (fresh st).Ok) {g cap : Nat} {cur : Array Value} (hr : RowIs g cap (flat st) w1 cur) :
    DiskAt (w1.heap.size + 1) g w1.heap.size (fresh st) ((w1.alloc (.map #[] 0)).alloc (.cells #[.slice (some ⟨g, 0, none⟩) (64 * st.length) cap, .map (some w1.heap.size), .string ⟨#[]⟩, .int .i64 0, .int .i64 0, .string ⟨#[]⟩, .bool false] 153)) := by
  have hs : (w1.alloc (.map #[] 0)).heap.size = w1.heap.size + 1 := by simp
  refine ⟨hok, cap, ⟨#[]⟩, cur, .map [], ?_, ?_, ?_, Nat.zero_le _, fun k => ?_⟩
  · have := heap_alloc_new (w1.alloc (.map #[] 0)) (.cells #[.slice (some ⟨g, 0, none⟩) (64 * st.length) cap, .map (some w1.heap.size), .string ⟨#[]⟩, .int .i64 0, .int .i64 0, .string ⟨#[]⟩, .bool false] 153)
    rw [hs] at this
    rw [this]
    rfl
  · exact hr.stay (Stir.of_below (F := fun _ => False) (((Below.refl _ w1).alloc (Nat.le_refl _) _).alloc (by simp) _)) (fun h => h)
  · exact (looseAt_new w1).below ((Below.refl _ _).alloc (Nat.le_refl _) _)
  · simp [bitI, bit, gd, fresh]

set_option maxRecDepth 100000 in
theorem new_yes (n : Nat) (h1 : 1 ≤ n) (h2 : n ≤ 16384) (w : World) :
    Calls Tryz.prog 13 #[.int .i64 n] w fun e w' => ∃ b g m, e = .returned (.tuple #[.pointer (some ⟨b, 0, none⟩), .int .i64 0]) ∧ DiskAt b g m (fresh (blank n)) w' ∧ (w.heap.size ≤ b ∧ w.heap.size ≤ g ∧ w.heap.size ≤ m) ∧ Below w.heap.size w w' := by
  obtain ⟨i0, hi, hz0, hz1, hz2⟩ := info_parts info5e
  have hmk := run_makeSlice (P := Tryz.prog) (w := w) 85 5 i0 (.int .u8 0) Tryz.underlying85 hi hz0 .i64 .i64 ((64 * n : Nat) : Int) ((64 * n : Nat) : Int) (by omega) (by omega) (by rw [hz1]; omega) (by rw [hz2]; omega) (by omega)
  rw [hz1, Nat.mul_one, Int.toNat_natCast, show Value.cells (.int .u8 0) = #[.int .u8 0] from rfl] at hmk
  have hrow := made_row w (64 * n) (by omega)
  rw [← flat_blank] at hrow
  obtain ⟨M, hM⟩ : ∃ M, madeCells #[Value.int .u8 0] (64 * n) = M := ⟨_, rfl⟩
  rw [hM] at hmk hrow
  have hX := disk_new (blank_ok h1 h2) hrow
  rw [show (blank n).length = n by simp [blank]] at hX
  obtain ⟨w1, hw1⟩ : ∃ w1, w.alloc (.cells M 5) = w1 := ⟨_, rfl⟩
  have hs1 : w1.heap.size = w.heap.size + 1 := by rw [← hw1]; simp
  have hB1 : Below w.heap.size w w1 := by rw [← hw1]; exact (Below.refl _ w).alloc (Nat.le_refl _) _
  rw [hw1] at hX hmk
  have HX := Lib.hid hX
  have HS := Lib.hid hs1
  have HB := Lib.hid hB1
  have C := fun w => over_any w1.heap.size (64 * n) (64 * n) w
  have e64 : ((64 * n : Nat) : Int) = (n : Int) * 64 := by omega
  rw [e64] at hmk
  have C := fun gg w => over_any gg (64 * n) (64 * n) w
  clear hX hs1 hB1 hrow hM hi hz0 hz1 hz2 hw1 e64
  go_enter Tryz.func13, Tryz.ntmps13
  go_wp2_with fail
  refine (C _ _).mono ?_
  rintro e w2 ⟨rfl, rfl⟩
  go_wp2
  go_ret2
  exact ⟨_, _, _, rfl, HX.out, ⟨by have := HS.out; omega, Nat.le_refl _, by have := HS.out; omega⟩, (HB.out.alloc (by have := HS.out; omega) _).alloc (by have := HS.out; simp; omega) _⟩

theorem new_no (n : Int) (h : n < 1 ∨ 16384 < n) (w : World) :
    Calls Tryz.prog 13 #[.int .i64 n] w fun e w' => e = .returned (.tuple #[.pointer none, .int .i64 60]) ∧ w = w' := by
  by_cases h1 : n < 1
  · clear h
    go_enter Tryz.func13, Tryz.ntmps13
    go_wp2
    go_ret2
    exact ⟨rfl, rfl⟩
  · have h2 : 16384 < n := by omega
    clear h
    go_enter Tryz.func13, Tryz.ntmps13
    go_wp2
    go_ret2
    exact ⟨rfl, rfl⟩
end
end Go.Proofs.YtmloljjllmmkoaaGreat

namespace Go.Proofs.YtmloljjllmmkoaaGreat
open Go.RowKit Go Go.Maps SM

section
variable {b g cap m : Nat} {B : ByteArray} {a : Int} {s : DS} {cur : Array Value} {D : DataW Unit} {w w' : World}

theorem below_bytesWorld (w : World) (e : TypeId) (x : ByteArray) : Below w.heap.size w (Lib.bytesWorld w e x) ∧ (Lib.bytesWorld w e x).heap.size = w.heap.size + 1 := by
  have hs : (Lib.bytesWorld w e x).heap.size = w.heap.size + 1 := by simp [Lib.bytesWorld, World.freeze]
  refine ⟨⟨rfl, rfl, rfl, by omega, fun k hk => Lib.bytesWorld_at_old w e x k hk⟩, hs⟩

/-! ### Clone -/
theorem clone_end {c g' cap' m' : Nat} {cur' : Array Value} {w3 : World} (h0 : DAt b g cap m B a s cur D w) (hc : w3.heap[c]? = some (DObj g cap m B a s)) (hr : RowIs g' cap' (flat s.stay) w3 cur') (hl : LooseAt m' s.loose w3 D) (h1 : g' ≠ c) (h2 : m' ≠ c) :
    DAt c g' cap' m' B a s cur' D ((w3.setCell ⟨c, 0, none⟩ (.slice (some ⟨g', 0, none⟩) (64 * s.stay.length) cap')).setCell ⟨c, 1, none⟩ (.map (some m'))) := by
  refine ⟨?_, (hr.set h1 _).set h1 _, (hl.set h2 _).set h2 _, h0.size, h0.bads⟩
  rw [heap_set (heap_set hc _)]
  simp [DObj]
/-- the disk's cells while other blocks are made and turned -/
theorem cells_other {c : Nat} (h : w.heap[b]? = some (DObj g cap m B a s)) (hb : b ≠ c) : (∀ x, (w.setCell ⟨c, 0, none⟩ x).cell? ⟨b, 0, none⟩ = some (.slice (some ⟨g, 0, none⟩) (64 * s.stay.length) cap) ∧ (w.setCell ⟨c, 0, none⟩ x).cell? ⟨b, 1, none⟩ = some (.map (some m))) ∧
    (∀ x y, ((w.setCell ⟨c, 0, none⟩ x).setCell ⟨c, 1, none⟩ y).cell? ⟨b, 0, none⟩ = some (.slice (some ⟨g, 0, none⟩) (64 * s.stay.length) cap) ∧ ((w.setCell ⟨c, 0, none⟩ x).setCell ⟨c, 1, none⟩ y).cell? ⟨b, 1, none⟩ = some (.map (some m))) :=
  ⟨fun x => ⟨DObj.c0 (heap_set_other h hb x), DObj.c1 (heap_set_other h hb x)⟩, fun x y => ⟨DObj.c0 (heap_set_other (heap_set_other h hb x) hb y), DObj.c1 (heap_set_other (heap_set_other h hb x) hb y)⟩⟩
end
end Go.Proofs.YtmloljjllmmkoaaGreat

namespace Go.Proofs.YtmloljjllmmkoaaGreat
open Go.RowKit Go Go.Maps SM

/-- the sectors of a text -/
def parts (x : ByteArray) (k : Nat) : List ByteArray := (List.range k).map fun j => x.extract (64 * j) (64 * j + 64)
theorem parts_len (x : ByteArray) (k : Nat) : (parts x k).length = k := by simp [parts]
theorem parts_succ (x : ByteArray) (k : Nat) : parts x (k + 1) = parts x k ++ [x.extract (64 * k) (64 * k + 64)] := by simp [parts, List.range_succ]
theorem parts_size {x : ByteArray} {k : Nat} (h : 64 * k ≤ x.size) : ∀ b ∈ parts x k, b.size = 64 := by
  intro b hb
  obtain ⟨j, hj, rfl⟩ := List.mem_map.1 hb
  have := List.mem_range.1 hj
  rw [ByteArray.size_extract]
  omega
theorem flat_parts (x : ByteArray) : ∀ k : Nat, flat (parts x k) = x.data.toList.take (64 * k)
  | 0 => by simp [parts, flat]
  | k + 1 => by
    rw [parts_succ, flat_append, flat_parts x k, flat_cons, flat_nil, List.append_nil, Lib.extract_data, show 64 * k + 64 - 64 * k = 64 by omega, show 64 * (k + 1) = 64 * k + 64 by omega, List.take_add]
theorem img_parts {x : ByteArray} {k : Nat} (h : x.size = 64 * k) : img (parts x k) = x := by
  apply ByteArray.ext
  apply Array.toList_inj.1
  rw [img_list, flat_parts, List.take_of_length_le (by rw [len_of]; omega)]
theorem parts_ok {x : ByteArray} {k : Nat} (h : x.size = 64 * k) (h1 : 1 ≤ k) (h2 : k ≤ 16384) : (fresh (parts x k)).Ok :=
  fresh_ok (by rw [parts_len]; exact h1) (by rw [parts_len]; exact h2) (parts_size (by omega))
theorem bytes_row (w : World) {x : ByteArray} {k : Nat} (h : x.size = 64 * k) (h2 : k ≤ 16384) : RowIs w.heap.size (grownCap w x.size 0 5) (flat (parts x k)) (Lib.bytesWorld w 5 x) (Lib.bytesCells w 5 x) := by
  have e : flat (parts x k) = x.data.toList := by rw [flat_parts, List.take_of_length_le (by rw [len_of]; omega)]
  have h3 := grownCap_ge w x.size 0 5
  have hs : (Lib.bytesCells w 5 x).size = grownCap w x.size 0 5 := by
    simp [Lib.bytesCells]
    have : x.data.size = x.size := rfl
    omega
  have hl : (flat (parts x k)).length = x.size := by rw [e, len_of]
  refine ⟨⟨_, Lib.bytesWorld_at_new w 5 x, .inr (by rw [hl, hs]; exact h3)⟩, hs, grownCap_le_maxLen _ _ _ _ (by unfold maxLen; omega), by rw [hl]; exact h3, ?_⟩
  rw [e, len_of]
  have : x.data.size = x.size := rfl
  simp [Lib.bytesCells, Lib.byteCells, this]

end Go.Proofs.YtmloljjllmmkoaaGreat

namespace Go.Proofs.YtmloljjllmmkoaaGreat
open Go.RowKit Go Go.Maps SM

/-- how many bytes -/
def secN (more : Int) : Nat := (64 + max (-64) (min more 136)).toNat
def sec (c : UInt8) (more : Int) : ByteArray := ⟨(List.replicate (secN more) c).toArray⟩
theorem size_sec (c : UInt8) (more : Int) : (sec c more).size = secN more := by simp [sec, ByteArray.size]
theorem secN_le (more : Int) : secN more ≤ 200 := by unfold secN; omega
theorem secN_zero : secN 0 = 64 := by decide

theorem row_step (c : UInt8) (N k : Nat) (h : k < N) : (List.replicate k c ++ List.replicate (N - k) (0 : UInt8)).set k c = List.replicate (k + 1) c ++ List.replicate (N - (k + 1)) 0 := by
  rw [List.set_append_right _ _ (by simp), List.length_replicate, Nat.sub_self, show N - k = (N - (k + 1)) + 1 by omega, List.replicate_succ, List.set_cons_zero, List.replicate_succ', List.append_assoc]
  rfl

end Go.Proofs.YtmloljjllmmkoaaGreat

namespace Go.Proofs.YtmloljjllmmkoaaGreat
open Go.RowKit Go Go.Maps SM

section
variable {b g m : Nat} {s : DS} {w w' : World}
theorem read_any (h : DiskAt b g m s w) (n : Int) (hn : I64 n) :
    Calls Tryz.prog 166 #[.pointer (some ⟨b, 0, none⟩), .int .i64 n] w fun e w' => e = .returned (.tuple #[.string (s.readS n), .int .i64 (s.readE n)]) ∧ Below w.heap.size w w' := by
  obtain ⟨hk, cap, B, cur, D, h⟩ := h
  exact read_at h hk n hn
theorem sectors_any (h : DiskAt b g m s w) :
    Calls Tryz.prog 108 #[.pointer (some ⟨b, 0, none⟩)] w fun e w' => e = .returned (.int .i64 s.stay.length) ∧ w = w' := by
  obtain ⟨hk, cap, B, cur, D, h⟩ := h
  exact sectors_at h hk
/-- a world's blocks from B on: the disk's, and what is new -/
def Over (B b g m : Nat) : Prop := B ≤ b ∧ B ≤ g ∧ B ≤ m
theorem Over.foot {B : Nat} (h : Over B b g m) : ∀ k, Foot b g m k → B ≤ k := by
  rintro k (rfl | rfl | rfl)
  · exact h.1
  · exact h.2.1
  · exact h.2.2
theorem step_below {B : Nat} {w0 : World} (h0 : Below B w0 w) (hs : Stir (Foot b g m) w w') (hl : Over B b g m) (hB : B ≤ w.heap.size) : Below B w0 w' := h0.trans (hs.below hl.foot hB)
end

/-! ### the calls whose answers are fixed -/
def fX : ByteArray := sec 120 0
def fY : ByteArray := sec 121 0
def fS0 : DS := fresh (blank 2)
def fS1 : DS := fS0.write 1 fX
def fS2 : DS := fS1.write 0 fY
def fS3 : DS := fS2.crash ⟨#[1]⟩
def fS4 : DS := fS3.revive
def fS5 : DS := fS4.setBad 1 true
theorem f1 : fS0.writeE 1 fX = 0 := by kernel_rfl
theorem f2 : fS1.writeE 0 fY = 0 := by kernel_rfl
theorem f3 : fS2.readS 1 = fX := by kernel_rfl
theorem f4 : fS2.readE 1 = 0 := by kernel_rfl
theorem f5 : img fS2.stay = sec 0 64 := by kernel_rfl
theorem f6 : fS2.crashE = 0 := by kernel_rfl
theorem f7 : fS3.readE 0 = 2 := by kernel_rfl
theorem f8 : img fS4.stay = sec 0 0 ++ fX := by kernel_rfl
theorem f9 : fS4.may 1 = 0 := by kernel_rfl
theorem f10 : fS5.readE 1 = 3 := by kernel_rfl
theorem f11 : fS5.made = 2 := by kernel_rfl
theorem f12 : fS5.writeE 0 ⟨#[]⟩ = 1 := by kernel_rfl
theorem f13 : fS0.made = 0 := by kernel_rfl
theorem f14 : fS1.made = 1 := by kernel_rfl
theorem f15 : fS2.made = 2 := by kernel_rfl

end Go.Proofs.YtmloljjllmmkoaaGreat

namespace Go.Proofs.YtmloljjllmmkoaaGreat
open Go.ChangeShapes Go.WideShapes Go.ChangeAt Go.RowKit Go
theorem cells3 : Tryz.prog.cellsOf 3 = 1 := by kernel_rfl
theorem cells9 : Tryz.prog.cellsOf 9 = 1 := by kernel_rfl
theorem cellsB : Tryz.prog.cellsOf 4 = 1 := by kernel_rfl
theorem cellsY : Tryz.prog.cellsOf 5 = 1 := by kernel_rfl
def ByteOk (n : Int) : Prop := 0 ≤ n ∧ n ≤ 255
theorem byte_range {n : Int} (h : (Lit.int .u8 n).wf = true) : 0 ≤ n ∧ n ≤ 255 := by
  have e : IntKind.u8.min = 0 := by decide
  have e2 : IntKind.u8.max = 255 := by decide
  simp [Lit.wf] at h
  rw [e, e2] at h
  exact h
theorem weights_mem_all {H : Type} {P : Program} {e : TypeId} {d : DataW H} {n : Nat} : ∀ {l : List (DataW H)}, d ∈ l → n ∈ d.weights P e → n ∈ DataW.weightsAll P e l
  | x :: r, h, hn => by
    simp only [DataW.weightsAll, List.mem_append]
    rcases List.mem_cons.1 h with rfl | h
    · exact .inl hn
    · exact .inr (weights_mem_all h hn)
/-- a list of calls, at a world -/
def OpsAt (W : World) (v : Value) (l : List (Int × Int × Int × Int × ByteArray × Bool)) : Prop :=
  ∃ a cap, v = .slice a l.length cap ∧ (l ≠ [] → ∃ b off, a = some ⟨b, off, none⟩ ∧ b < W.heap.size ∧ ∀ j (h : j < l.length),
    W.cell? ⟨b, off + j * 6, none⟩ = some (.int .i64 l[j].1) ∧ W.cell? ⟨b, off + j * 6 + 1, none⟩ = some (.int .i64 l[j].2.1) ∧ W.cell? ⟨b, off + j * 6 + 2, none⟩ = some (.int .u8 l[j].2.2.1) ∧ W.cell? ⟨b, off + j * 6 + 3, none⟩ = some (.int .i64 l[j].2.2.2.1) ∧ W.cell? ⟨b, off + j * 6 + 4, none⟩ = some (.string l[j].2.2.2.2.1) ∧ W.cell? ⟨b, off + j * 6 + 5, none⟩ = some (.bool l[j].2.2.2.2.2))
def OpsOk (l : List (Int × Int × Int × Int × ByteArray × Bool)) : Prop := l.length ≤ 9223372036854775807 ∧ ∀ q ∈ l, IntOk q.1 ∧ IntOk q.2.1 ∧ ByteOk q.2.2.1 ∧ IntOk q.2.2.2.1 ∧ q.2.2.2.2.1.size ≤ 140737488351232
section
variable {H : Type} {enc : TypeId × Value → H} {W : World} {base : Nat} {v : Value} {d : DataW H} {p : List MemPlace}
end
theorem OpsAt.later {W W' : World} {v : Value} {l : List (Int × Int × Int × Int × ByteArray × Bool)} (h : OpsAt W v l) (hB : Below W.heap.size W W') : OpsAt W' v l := by
  obtain ⟨a, cap, h1, h2⟩ := h
  refine ⟨a, cap, h1, fun hne => ?_⟩
  obtain ⟨b, off, e, hb, hc⟩ := h2 hne
  have hk : ∀ i, W'.cell? ⟨b, i, none⟩ = W.cell? ⟨b, i, none⟩ := fun i => World.cell?_of_block (w := W) (hB.block b hb)
  refine ⟨b, off, e, Nat.lt_of_lt_of_le hb hB.size, fun j hj => ?_⟩
  rw [hk, hk, hk, hk, hk, hk]
  exact hc j hj
end Go.Proofs.YtmloljjllmmkoaaGreat

namespace Go.Proofs.YtmloljjllmmkoaaGreat
open Go.RowKit Go Go.Maps SM

theorem clamp (z a c : Int) (h : a ≤ c) : ∃ P Q : Int, (min z c = P ∧ (if c < z then c else z) = P ∧ (if z < c then z else c) = P) ∧ (max a P = Q ∧ (if a < P then P else a) = Q ∧ (if P < a then a else P) = Q) ∧ a ≤ Q ∧ Q ≤ c :=
  ⟨min z c, max a (min z c), ⟨rfl, by omega, by omega⟩, ⟨rfl, by omega, by omega⟩, by omega, by omega⟩
/-- how many sectors a law's disk has -/
theorem clampN (z : Int) : ∃ (P : Int) (n : Nat), (min z 40 = P ∧ (if (40 : Int) < z then 40 else z) = P ∧ (if z < 40 then z else 40) = P) ∧ (max 1 P = (n : Int) ∧ (if (1 : Int) < P then P else 1) = (n : Int) ∧ (if P < 1 then 1 else P) = (n : Int)) ∧ 1 ≤ n ∧ n ≤ 40 := by
  obtain ⟨P, Q, h1, ⟨h2, h3, h4⟩, h5, h6⟩ := clamp z 1 40 (by omega)
  exact ⟨P, Q.toNat, h1, ⟨by omega, by omega, by omega⟩, by omega, by omega⟩

/-- two texts that are not one, as the walk asks it -/
theorem texts_ne {a b : ByteArray} (h : a ≠ b) : (a.toList == b.toList) = false ∧ (a.toList != b.toList) = true := by
  have : (a.toList == b.toList) = false := by
    rw [ByteArray.toList_eq, ByteArray.toList_eq]
    exact beq_eq_false_iff_ne.2 (fun e => h (ByteArray.ext (Array.toList_inj.1 e)))
  exact ⟨this, by rw [bne, this]; rfl⟩
/-- a byte -/
def byteOf (n : Int) : UInt8 := UInt8.ofNat n.toNat
theorem byteOf_is {n : Int} (h : ByteOk n) : ((byteOf n).toNat : Int) = n := by
  obtain ⟨h1, h2⟩ := h
  simp [byteOf]; omega
/-- the power is there, nothing is armed, nothing is bad -/
structure Calm (n k : Nat) (s : DS) : Prop where
  ok : s.Ok
  dead : s.dead = false
  armed : s.armed = 0
  bad : ∀ j, s.bad j = false
  len : s.stay.length = n
  made : s.made ≤ k
section
variable {n k : Nat} {s : DS}
theorem calm_fresh {n : Nat} (h1 : 1 ≤ n) (h2 : n ≤ 16384) : Calm n 0 (fresh (blank n)) := ⟨blank_ok h1 h2, rfl, rfl, fun _ => rfl, by simp [fresh, blank], Nat.le_refl _⟩
theorem Calm.may (h : Calm n k s) (j : Int) : s.may j = if j < 0 ∨ (n : Int) ≤ j then 61 else 0 := by
  unfold DS.may
  rw [h.dead, h.len]
  rfl
theorem Calm.mono (h : Calm n k s) {k' : Nat} (hk : k ≤ k') : Calm n k' s := ⟨h.ok, h.dead, h.armed, h.bad, h.len, Nat.le_trans h.made hk⟩
theorem Calm.write_is (h : Calm n k s) (j : Int) (x : ByteArray) : s.write j x = if (0 ≤ j ∧ j < n) ∧ x.size = 64 then s.lays j x else s := by
  unfold DS.write DS.fits
  rw [h.may, h.bad, h.armed]
  by_cases h1 : j < 0 ∨ (n : Int) ≤ j
  · have : ¬ ((0 ≤ j ∧ j < n) ∧ x.size = 64) := by omega
    simp [h1, this]
  · have h2 : 0 ≤ j ∧ j < n := by omega
    by_cases h3 : x.size = 64
    · simp [h1, h2, h3]
    · simp [h1, h3]
theorem Calm.writeE_is (h : Calm n k s) (j : Int) {x : ByteArray} (hx : x.size = 64) : s.writeE j x = if j < 0 ∨ (n : Int) ≤ j then 61 else 0 := by
  unfold DS.writeE
  rw [h.may, h.bad, h.armed]
  by_cases h1 : j < 0 ∨ (n : Int) ≤ j <;> simp [h1, hx]
theorem Calm.write (h : Calm n k s) (j : Int) (x : ByteArray) : Calm n (k + 1) (s.write j x) := by
  rw [h.write_is]
  split
  · rename_i hc
    exact ⟨h.ok.lays hc.1.1 (by rw [h.len]; exact hc.1.2) hc.2, h.dead, by simp [DS.lays, DS.tick, h.armed], h.bad, h.len, by have := h.made; simp [DS.lays, DS.tick]; omega⟩
  · exact h.mono (by omega)
theorem Calm.sync_is (h : Calm n k s) : s.sync = s.tick.settled := by
  unfold DS.sync
  rw [h.dead, h.armed]
  rfl
theorem Calm.syncE_is (h : Calm n k s) : s.syncE = 0 := by
  unfold DS.syncE
  rw [h.dead, h.armed]
  rfl
theorem Calm.sync (h : Calm n k s) : Calm n (k + 1) s.sync := by
  rw [h.sync_is]
  exact ⟨h.ok.tick.settled, h.dead, by simp [DS.tick, DS.settled, h.armed], h.bad, by simp [DS.settled, DS.tick, length_laid, h.len], by have := h.made; simp [DS.settled, DS.tick]; omega⟩
theorem Calm.sync_loose (h : Calm n k s) : s.sync.loose = [] := by rw [h.sync_is]; rfl
theorem Calm.crashE_is (h : Calm n k s) : s.crashE = 0 := by simp [DS.crashE, h.dead]
theorem Calm.crash_is (h : Calm n k s) (keep : ByteArray) : s.crash keep = s.goes keep := by simp [DS.crash, h.dead]
theorem Calm.readE_is (h : Calm n k s) {j : Int} (h0 : 0 ≤ j) (h1 : j < n) : s.readE j = 0 := by
  unfold DS.readE
  rw [h.may, h.bad]
  simp; omega
theorem Calm.readS_is (h : Calm n k s) {j : Int} (h0 : 0 ≤ j) (h1 : j < n) : s.readS j = s.look j := by
  unfold DS.readS
  rw [h.readE_is h0 h1]
  rfl
/-- with no sector loose a crash changes nothing that stays -/
theorem Calm.crash_stay (h : Calm n k s) (hl : s.loose = []) (keep : ByteArray) : (s.crash keep).stay = s.stay := by
  rw [h.crash_is]
  show laid _ s.loose s.stay = s.stay
  rw [hl, laid_nil]
theorem Calm.back (h : Calm n k s) (hl : s.loose = []) (keep : ByteArray) : Calm n k (s.crash keep).revive := by
  refine ⟨(h.ok.crash keep).revive, rfl, rfl, ?_, ?_, ?_⟩
  · rw [h.crash_is]; exact h.bad
  · show (s.crash keep).stay.length = n
    rw [h.crash_stay hl, h.len]
  · rw [h.crash_is]; exact h.made
theorem Calm.back_look (h : Calm n k s) (hl : s.loose = []) (keep : ByteArray) {j : Nat} (hj : j < s.stay.length) : (s.crash keep).revive.look j = s.stay[j] := by
  have h1 : (s.crash keep).revive.loose = [] := by rw [h.crash_is]; rfl
  have h2 : (s.crash keep).revive.stay = s.stay := h.crash_stay hl keep
  unfold DS.look
  rw [h1, h2]
  simp [seek, hj]
end
/-- a part of what stays -/
theorem img_part {st : List ByteArray} (h : ∀ b ∈ st, b.size = 64) {j : Nat} (hj : j < st.length) : (img st).extract (64 * j) (64 * j + 64) = st[j] := by
  apply ByteArray.ext
  apply Array.toList_inj.1
  rw [← flat_at h j hj]
  simp [ByteArray.data_extract, List.extract_eq_take_drop, img]
theorem part_run (W : World) (I : ByteArray) (j : Nat) (h : 64 * (j : Int) + 64 ≤ I.size) :
    (Instr.slice 9 (.string I) (some (.int .i64 (64 * (j : Int)))) (some (.int .i64 (64 * (j : Int) + 64))) none).run Tryz.prog W = .ok (.string (I.extract (64 * j) (64 * j + 64))) W := by
  have := run_slice_string W 9 I .i64 .i64 (64 * (j : Int)) (64 * (j : Int) + 64) Tryz.underlying9 (by omega) (by omega) h
  rw [show (64 * (j : Int)).toNat = 64 * j by omega, show (64 * (j : Int) + 64).toNat = 64 * j + 64 by omega] at this
  exact this
end Go.Proofs.YtmloljjllmmkoaaGreat

namespace Go.Proofs.YtmloljjllmmkoaaGreat
open Go.RowKit Go Go.Maps SM

section
variable {b g m base n : Nat} {s : DS} {w w' : World} {e : TypeId} {v : Value} {xs : List Value}
theorem DiskAt.kinds (h : DiskAt b g m s w) : (∃ C f, w.heap[b]? = some (.cells C 153 f)) ∧ (∃ C f, w.heap[g]? = some (.cells C 5 f)) ∧ (∃ es c, w.heap[m]? = some (.map es c)) := by
  obtain ⟨h1, cap, B, cur, D, h2⟩ := h
  exact ⟨⟨_, _, h2.obj⟩, by obtain ⟨f, h3, _⟩ := h2.row.at_; exact ⟨_, f, h3⟩, h2.loose.obj⟩
theorem DiskAt.not_cells (h : DiskAt b g m s w) {k : Nat} {C : Array Value} {f : Nat × Nat} (hk : w.heap[k]? = some (.cells C e f)) (h1 : e ≠ 153) (h2 : e ≠ 5) : ¬ Foot b g m k := by
  obtain ⟨⟨C1, f1, e1⟩, ⟨C2, f2, e2⟩, ⟨es, c, e3⟩⟩ := h.kinds
  rintro (rfl | rfl | rfl)
  · rw [hk] at e1; simp at e1; exact h1 e1.2.1
  · rw [hk] at e2; simp at e2; exact h2 e2.2.1
  · rw [hk] at e3; cases e3
theorem stir_of_grown {row : Option Nat} (h : w.grownBy w' row) : Stir (fun k => row = some k) w w' := ⟨h.os, h.tape, h.output, h.size, fun k hk hn => h.block k hk (fun e => hn e.symm)⟩
theorem owns_block {size : Nat} (h : w.ownsRow base e size v n xs) {k : Nat} (hk : v.ownBlock = some k) : ∃ C, w.heap[k]? = some (.cells C e (0, 0)) := by
  rcases h.2 with ⟨rfl, _⟩ | ⟨g, cap, cur, rfl, _, hg, _⟩
  · cases hk
  · cases hk
    exact ⟨cur, hg⟩
/-- an append to a row of another kind -/
theorem DiskAt.grown {size : Nat} (h : DiskAt b g m s w) (hr : w.ownsRow base e size v n xs) (hg : w.grownBy w' v.ownBlock) (h1 : e ≠ 153) (h2 : e ≠ 5) : DiskAt b g m s w' :=
  h.stay (stir_of_grown hg) (fun i hi e' => by
    obtain ⟨C, hC⟩ := owns_block hr e'
    exact h.not_cells hC h1 h2 hi)
/-- a store into a row of another kind -/
theorem DiskAt.other {k i : Nat} {C : Array Value} {f : Nat × Nat} (h : DiskAt b g m s w) (hk : w.heap[k]? = some (.cells C e f)) (h1 : e ≠ 153) (h2 : e ≠ 5) (x : Value) : DiskAt b g m s (w.setCell ⟨k, i, none⟩ x) :=
  h.stay ((Stir.refl (· = k) w).set (.inl rfl) x) (fun j hj e' => by subst e'; exact h.not_cells hk h1 h2 hj)
theorem owns_stay {size : Nat} {F : Nat → Prop} (h : w.ownsRow base e size v n xs) (hs : Stir F w w') (hn : ∀ k, v.ownBlock = some k → ¬ F k) : w'.ownsRow base e size v n xs := by
  refine ⟨h.1, ?_⟩
  rcases h.2 with h' | ⟨g, cap, cur, rfl, hB, hg, rest⟩
  · exact .inl h'
  · exact .inr ⟨g, cap, cur, rfl, hB, hs.keep hg (hn g rfl), rest⟩
theorem owns_below {size : Nat} (h : w.ownsRow base e size v n xs) (hB : Below w.heap.size w w') : w'.ownsRow base e size v n xs := owns_stay h (Stir.of_below (F := fun _ => False) hB) (fun _ _ h => h)
/-- a row of another kind, while a disk does something -/
theorem owns_disk {size : Nat} (h : w.ownsRow base e size v n xs) (hd : DiskAt b g m s w) (hs : Stir (Foot b g m) w w') (h1 : e ≠ 153) (h2 : e ≠ 5) : w'.ownsRow base e size v n xs :=
  owns_stay h hs (fun k hk hf => by
    obtain ⟨C, hC⟩ := owns_block h hk
    exact hd.not_cells hC h1 h2 hf)
end

/-! ### What sectors tell -/
section
variable {n k : Nat} {s : DS}
theorem look_lays (s : DS) (j : Int) (x : ByteArray) (i : Int) : (s.lays j x).look i = if i = j then x else s.look i := by
  unfold DS.look
  show (match seek i (putL j x s.loose) 0 with | some z => z.2 | none => s.stay.getD i.toNat none0) = _
  rw [seek_putL]
  by_cases h : i = j
  · subst h; simp
  · simp only [h, if_false]; rfl
theorem look_settled (s : DS) {i : Nat} (hi : i < s.stay.length) : s.settled.look i = s.look i := by
  unfold DS.look
  show (laid (fun _ => true) s.loose s.stay).getD (i : Int).toNat none0 = _
  rw [Int.toNat_natCast, List.getD_eq_getElem?_getD, List.getElem?_eq_getElem (by rw [length_laid]; exact hi), Option.getD_some, get_laid _ _ _ _ hi]
  cases seek (i : Int) s.loose 0 with
  | none => simp [hi]
  | some z => simp
theorem Calm.sync_look (h : Calm n k s) {i : Nat} (hi : i < n) : s.sync.look i = s.look i := by
  rw [h.sync_is, look_settled]
  · rfl
  · show i < s.stay.length
    rw [h.len]; exact hi
theorem look_fresh {i : Nat} (hi : i < n) : (fresh (blank n)).look i = zero64 := by
  unfold DS.look
  simp [fresh, seek, blank, hi]
theorem sec_zero : sec 0 0 = zero64 := by simp [sec, zero64, secN_zero]
end
end Go.Proofs.YtmloljjllmmkoaaGreat

