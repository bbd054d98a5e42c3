/-
  One instance of a cache: Keys, New.
-/
import Derived.Test.YtipnbggbejkhkaaCacSD
import Derived.Laws.OwnMore
import Derived.OwnWalk
import Derived.Maps.AppendAt
import Derived.LaidEqlPtr
import Derived.Lib.Builder
namespace Go.Proofs.Ytipnbggbejkhkaa.CS
open Go.RowKit Go Go.Maps

theorem infoK : (Try.prog.info? 9).map (fun i => (i.zero, i.size, i.bytes)) =
  some (some (.string ⟨#[]⟩), 1, 16) := by kernel_rfl
theorem linkInfo : ∃ j, Try.prog.info? 68 = some j ∧ j.size ≠ 0 := by
  have h : (Try.prog.info? 68).map (fun i => i.size) = some 4 := by kernel_rfl
  obtain ⟨j, h1, h2⟩ := Option.map_eq_some_iff.1 h
  exact ⟨j, h1, by rw [h2]; decide⟩
theorem run_neq_links {w : World} {a b : Nat} {x y : ByteArray × Int} {n p n' p' : Value} (hne : a ≠ b) (ha : w.heap[a]? = some (LObj x n p)) (hb : w.heap[b]? = some (LObj y n' p')) :
    (binOp .neq 66 (.pointer (some ⟨a, 0, none⟩)) (.pointer (some ⟨b, 0, none⟩))).run Try.prog w = .ok (.bool true) w := by
  obtain ⟨j, hj, hsz⟩ := linkInfo
  have h : ∀ d : Nat, (Op.equalIn (d + 1) 66 (.pointer (some ⟨a, 0, none⟩)) (.pointer (some ⟨b, 0, none⟩))).run Try.prog w = .ok false w := fun d => by
    simp [Op.equalIn, run_underlying Try.underlying66, sizeOf, typeInfo, hj, hsz, run_sameAddr_other w (a := ⟨a, 0, none⟩) (b := ⟨b, 0, none⟩) (fun e => hne (congrArg Addr.block e)) ha hb]
  simp only [binOp]
  simp [Op.equal, Op.maxDepth, h 9999]
/-- keys, as values -/
def keyVals (l : List ByteArray) : List Value := l.map fun k => .string k

section
variable {w w' : World} {B c room : Nat} {F : Nat → Prop} {L : List (ByteArray × Int)}

set_option maxRecDepth 100000 in
set_option maxHeartbeats 2000000 in
theorem keys_any (h : Cach B F c room L w) :
    Calls Try.prog 24 #[.pointer (some ⟨c, 0, none⟩)] w fun e w' => ∃ v, e = .returned v ∧ w'.ownsRow w.heap.size 9 1 v (keysL L).length (keyVals (keysL L)) ∧ Below w.heap.size w w' := by
  obtain ⟨m, r, T, nd, nx, pv, D, hc, rfl, hF, hB, hft, hmr⟩ := h
  obtain ⟨i0, hi, hz0, hz1, hz2⟩ := info_parts infoK
  have hN : (r :: T).Nodup := hc.ring.ring.nodup
  have HC := Lib.hid hc
  have c2 := CObj.c2 hc.obj
  have r2 := LObj.c2 (hc.ring.nodes r (by simp))
  rw [hc.ring.ring.start] at r2
  obtain ⟨q0, hq0⟩ : ∃ q, (T ++ [r]).getD 0 0 = q := ⟨_, rfl⟩
  rw [hq0] at r2
  have HQ := Lib.hid hq0
  unfold ptr at r2
  have hTm : T.length ≤ 65536 := by omega
  have HR := Lib.hid (fun k (hk : k < T.length) x hx => chain_at T r hc.ring.ring.chain k hk x hx)
  have HN := Lib.hid (List.nodup_cons.1 hN).1
  clear hq0 hc hN hF hB hft hmr
  go_enter Try.func24, Try.ntmps24
  go_wp2
  go_loopg [3, 4] T.length (fun g v l wr => ∃ k : Nat, k ≤ T.length ∧ g = T.length - k ∧ l = .pointer (some ⟨(T ++ [r]).getD k 0, 0, none⟩) ∧ wr.ownsRow w.heap.size 9 1 v (T.take k).length (keyVals ((T.take k).map fun b => (nd b).1)) ∧ Below w.heap.size w wr)
  case atStart => exact ⟨0, Nat.zero_le _, rfl, by rw [HQ.out], World.ownsRow_nil _ _ _ _, Below.refl _ _⟩
  case round =>
    obtain ⟨k, hk, hg, rfl, hrow, hB⟩ := hrel
    have hG := Lib.hid hg
    clear hg r2 c2
    have h1 := HC.out.later hB
    have c2 := CObj.c2 h1.obj
    by_cases hlt : k < T.length
    · obtain ⟨x, hx⟩ : ∃ x, T[k]? = some x := ⟨_, List.getElem?_eq_getElem hlt⟩
      have hxT : x ∈ T := List.mem_of_getElem? hx
      have hgd : (T ++ [r]).getD k 0 = x := by
        rw [List.getD_eq_getElem?_getD, List.getElem?_append_left hlt, hx]; rfl
      have hxr : x ≠ r := fun e => HN.out (e ▸ hxT)
      have x0 := LObj.c0 (h1.ring.nodes x (List.mem_cons_of_mem _ hxT))
      have x2 := LObj.c2 (h1.ring.nodes x (List.mem_cons_of_mem _ hxT))
      rw [HR.out k hlt x hx] at x2
      unfold ptr at x2
      have hneq := run_neq_links hxr (h1.ring.nodes x (List.mem_cons_of_mem _ hxT)) (h1.ring.nodes r (by simp))
      have HK := Lib.hid (show keyVals ((T.take (k + 1)).map fun b => (nd b).1) = keyVals ((T.take k).map fun b => (nd b).1) ++ [.string (nd x).1] by
        rw [List.take_add_one, hx, List.map_append]; simp [keyVals])
      have HT := Lib.hid (show (T.take (k + 1)).length = (T.take k).length + 1 by simp [List.length_take]; omega)
      have hTk : (T.take k).length = k := by simp; omega
      rw [hgd]
      have HX := Lib.hid h1
      have HB := Lib.hid hB
      have hsz := hB.size
      have HXT := Lib.hid hxT
      have HNX := Lib.hid (HR.out k hlt x hx)
      clear h1 hx hgd hxT hB
      obtain ⟨y, hy⟩ : ∃ y, (T ++ [r]).getD (k + 1) 0 = y := ⟨_, rfl⟩
      rw [hy] at x2 HNX
      have HY := Lib.hid hy
      clear hy
      generalize keyVals ((T.take k).map fun b => (nd b).1) = ks at *
      rw [hTk] at hrow HT
      go_wp2_with (at_builtin; refine wpList_append_own _ rfl _ _ 50 rfl w.heap.size 9 i0 (.string ⟨#[]⟩) 1 16 Try.underlying50 hi hz0 hz1 hz2 rfl (by decide) _ _ _ rfl (hrow.alloc _) ⟨wr.heap.size, 0, none⟩ 1 1 [.string (nd x).1] rfl rfl (cell_one_new _ _ _) (by simp [Value.oneCell']) (by unfold maxLen; omega) (by omega) (by simp; omega) ?_; intro v' w1 hown' hgrow _; have hB3 : Below w.heap.size wr w1 := ((Below.refl _ wr).alloc hsz _).grown hgrow (by simp; omega) (fun j ej => (hrow.lt j ej).1); have h2 := HC.out.later (HB.out.trans hB3); have x2 := LObj.c2 (h2.ring.nodes x (List.mem_cons_of_mem _ HXT.out)); rw [HNX.out] at x2; unfold ptr at x2; have HO := Lib.hid hown'; have HB4 := Lib.hid (HB.out.trans hB3); clear h2 hown' hgrow hB3)
      go_roundg (T.length - (k + 1))
      case measure => rw [hG.out]; omega
      case rel => exact ⟨k + 1, hlt, rfl, by rw [HY.out], by rw [HT.out, HK.out]; exact HO.out, HB4.out⟩
    · obtain rfl : k = T.length := by omega
      have hgd : (T ++ [r]).getD T.length 0 = r := by
        rw [List.getD_eq_getElem?_getD, List.getElem?_append_right (Nat.le_refl _), Nat.sub_self]; rfl
      obtain ⟨j, hj, hsz⟩ := linkInfo
      have hneq := Lib.run_neq_ptr_same wr ⟨r, 0, none⟩ Try.underlying66 hj
      rw [hgd]
      rw [List.take_length] at hrow
      have HB := Lib.hid hB
      clear hgd hB hj hsz
      go_wp2
      go_ret
      refine ⟨_, rfl, ?_, HB.out⟩
      unfold keysL
      rw [List.map_map, List.length_map]
      exact hrow

theorem heap_alloc_old {w : World} {b : Nat} {o : Obj} (h : w.heap[b]? = some o) (o' : Obj) : (w.alloc o').heap[b]? = some o := by
  rw [Below.heap_alloc w o' b (lt_of_heap h)]; exact h

/-- a new cache, in memory -/
theorem new_cach (w : World) (room : Nat) (_h1 : 1 ≤ room) (h2 : room ≤ 65536) :
    Cach w.heap.size (fun k => w.heap.size ≤ k ∧ k < w.heap.size + 3) (w.heap.size + 2) room [] (((w.alloc (LObj ((⟨#[]⟩ : ByteArray), (0 : Int)) (ptr w.heap.size) (ptr w.heap.size))).alloc (.map #[] 0)).alloc (CObj room (w.heap.size + 1) w.heap.size)) := by
  have a1 := heap_alloc_new w (LObj ((⟨#[]⟩ : ByteArray), (0 : Int)) (ptr w.heap.size) (ptr w.heap.size))
  have a2 := heap_alloc_old a1 (.map #[] 0)
  have a3 := heap_alloc_old a2 (CObj room (w.heap.size + 1) w.heap.size)
  have b2 := heap_alloc_new (w.alloc (LObj ((⟨#[]⟩ : ByteArray), (0 : Int)) (ptr w.heap.size) (ptr w.heap.size))) (.map #[] 0)
  have m2 := World.ownsMap_made (w.alloc (LObj ((⟨#[]⟩ : ByteArray), (0 : Int)) (ptr w.heap.size) (ptr w.heap.size))) Try.prog 9 ptrElem
  have m3 := m2.alloc (CObj room (w.heap.size + 1) w.heap.size)
  have c3 := heap_alloc_new ((w.alloc (LObj ((⟨#[]⟩ : ByteArray), (0 : Int)) (ptr w.heap.size) (ptr w.heap.size))).alloc (.map #[] 0)) (CObj room (w.heap.size + 1) w.heap.size)
  simp only [World.size_alloc] at m3 c3
  refine ⟨w.heap.size + 1, w.heap.size, [], fun _ => ((⟨#[]⟩ : ByteArray), (0 : Int)), fun _ => w.heap.size, fun _ => w.heap.size, .map [], ⟨c3, m3, rfl, fun _ _ => rfl, ⟨⟨by simp, rfl, rfl⟩, fun b hb => ?_⟩, by simp, fun b hb => by cases hb⟩, rfl, fun k => ?_, fun k hk => hk.1, Nat.zero_le _, h2⟩
  · obtain rfl : b = w.heap.size := by simpa using hb
    exact a3
  · unfold Foot
    simp
    omega

set_option maxRecDepth 100000 in
set_option maxHeartbeats 1000000 in
theorem new_any (room : Nat) (h1 : 1 ≤ room) (h2 : room ≤ 65536) (w : World) :
    Calls Try.prog 20 #[.int .i64 room] w fun e w' => ∃ c F, e = .returned (.tuple #[.pointer (some ⟨c, 0, none⟩), .int .i64 0]) ∧ Cach w.heap.size F c room [] w' ∧ Below w.heap.size w w' := by
  have hc := Lib.hid (new_cach w room h1 h2)
  have hmm := @run_makeMap Try.prog
  have h3 : (1 : Int) ≤ (room : Int) := by omega
  have h4 : (room : Int) ≤ 65536 := by omega
  clear h1 h2
  go_enter Try.func20, Try.ntmps20
  go_wp2
  go_ret2
  refine ⟨w.heap.size + 2, _, rfl, hc.out, ?_⟩
  exact (((Below.refl _ w).alloc (Nat.le_refl _) _).alloc (by simp) _).alloc (by simp; omega) _
theorem new_bad (n : Int) (h : n < 1 ∨ 65536 < n) (w : World) :
    Calls Try.prog 20 #[.int .i64 n] w fun e w' => e = .returned (.tuple #[.pointer none, .int .i64 40]) ∧ Below w.heap.size w w' := by
  by_cases h1 : n < 1
  · clear h
    go_enter Try.func20, Try.ntmps20
    go_wp2
    go_ret2
    exact ⟨rfl, Below.refl _ w⟩
  · have h2 : 65536 < n := by omega
    clear h
    go_enter Try.func20, Try.ntmps20
    go_wp2
    go_ret2
    exact ⟨rfl, Below.refl _ w⟩
end
end Go.Proofs.Ytipnbggbejkhkaa.CS
