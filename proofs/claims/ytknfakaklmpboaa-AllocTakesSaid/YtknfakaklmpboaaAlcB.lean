/-
  A pool: New, Take, Left, Taken, Next.
-/
import Derived.Test.YtknfakaklmpboaaAlcA
namespace Go.Proofs.Ytknfakaklmpboaa
open Go.ChangeShapes Go.WideShapes Go.ChangeAt Go.RowKit Go.Shelf Go SM PL AL

def PoolO (sb bp l : Nat) (v : Value) : Obj := .cells #[.func (.func 23) #[] #[.pointer (some ⟨sb, 0, none⟩), .pointer (some ⟨bp, 0, none⟩)], .func (.func 25) #[] #[.pointer (some ⟨bp, 0, none⟩)], .int .i64 l, v] 44 (0, 0)
section
variable {p sb bp l : Nat} {v : Value} {w : World}
theorem PoolO.c0 (h : w.heap[p]? = some (PoolO sb bp l v)) : w.cell? ⟨p, 0, none⟩ = some (.func (.func 23) #[] #[.pointer (some ⟨sb, 0, none⟩), .pointer (some ⟨bp, 0, none⟩)]) := by simp [World.cell?, h, PoolO]
theorem PoolO.c1 (h : w.heap[p]? = some (PoolO sb bp l v)) : w.cell? ⟨p, 1, none⟩ = some (.func (.func 25) #[] #[.pointer (some ⟨bp, 0, none⟩)]) := by simp [World.cell?, h, PoolO]
theorem PoolO.c2 (h : w.heap[p]? = some (PoolO sb bp l v)) : w.cell? ⟨p, 2, none⟩ = some (.int .i64 l) := by simp [World.cell?, h, PoolO]
theorem PoolO.c3 (h : w.heap[p]? = some (PoolO sb bp l v)) : w.cell? ⟨p, 3, none⟩ = some v := by simp [World.cell?, h, PoolO]
theorem PoolO.fr (h : w.heap[p]? = some (PoolO sb bp l v)) (i : Nat) : w.frozen? ⟨p, i, none⟩ = false := by simp [World.frozen?, h, PoolO]
theorem PoolO.set2 (h : w.heap[p]? = some (PoolO sb bp l v)) (l' : Nat) : (w.setCell ⟨p, 2, none⟩ (.int .i64 l')).heap[p]? = some (PoolO sb bp l' v) := by rw [heap_set h]; rfl
theorem PoolO.set3 (h : w.heap[p]? = some (PoolO sb bp l v)) (v' : Value) : (w.setCell ⟨p, 3, none⟩ v').heap[p]? = some (PoolO sb bp l v') := by rw [heap_set h]; rfl
end
/-- a pool in memory: of the free ones of a set, k are taken -/
structure PoolIs (B p sb bp : Nat) (v : Value) (u : List UInt8) (n f k : Nat) (w : World) : Prop where
  obj : w.heap[p]? = some (PoolO sb bp ((ord u n f).length - k) v)
  set : Boxed w sb 9 (.string (bs (freeT u n)))
  place : Boxed w bp 3 (.int .i64 (placeAt (ord u n f) f k))
  row : w.ownsRow B 3 1 v ((ord u n f).take k).length (ints ((ord u n f).take k))
  apart : v.ownBlock ≠ some bp
  low : B ≤ p ∧ B ≤ sb ∧ B ≤ bp
  le : k ≤ (ord u n f).length
  lo : 8 ≤ n
  hi : n ≤ 4096
  f1 : 1 ≤ f
  f2 : f ≤ n
/-- its blocks -/
def PFoot (p sb bp : Nat) (v : Value) (j : Nat) : Prop := j = p ∨ j = sb ∨ j = bp ∨ v.ownBlock = some j
def PoolAt (B : Nat) (F : Nat → Prop) (p : Nat) (u : List UInt8) (n f k : Nat) (w : World) : Prop := ∃ sb bp v, PoolIs B p sb bp v u n f k w ∧ F = PFoot p sb bp v
section
variable {B p sb bp n f k : Nat} {v : Value} {u : List UInt8} {w w' : World} {F : Nat → Prop}
theorem PoolIs.lt (h : PoolIs B p sb bp v u n f k w) {j : Nat} (hj : PFoot p sb bp v j) : j < w.heap.size ∧ B ≤ j := by
  rcases hj with rfl | rfl | rfl | e
  · exact ⟨lt_of_heap h.obj, h.low.1⟩
  · exact ⟨h.set.lt, h.low.2.1⟩
  · exact ⟨h.place.lt, h.low.2.2⟩
  · exact ⟨(h.row.lt j e).2, (h.row.lt j e).1⟩
theorem PoolAt.lt (h : PoolAt B F p u n f k w) {j : Nat} (hj : F j) : j < w.heap.size ∧ B ≤ j := by
  obtain ⟨sb, bp, v, h1, rfl⟩ := h
  exact h1.lt hj
theorem PoolIs.stay {G : Nat → Prop} (h : PoolIs B p sb bp v u n f k w) (s : Stir G w w') (hn : ∀ j, PFoot p sb bp v j → ¬ G j) : PoolIs B p sb bp v u n f k w' :=
  ⟨s.keep h.obj (hn _ (.inl rfl)), s.keep h.set (hn _ (.inr (.inl rfl))), s.keep h.place (hn _ (.inr (.inr (.inl rfl)))), owns_keep h.row (fun j hj => s.block j (h.row.lt j hj).2 (hn j (.inr (.inr (.inr hj))))), h.apart, h.low, h.le, h.lo, h.hi, h.f1, h.f2⟩
theorem PoolAt.stay {G : Nat → Prop} (h : PoolAt B F p u n f k w) (s : Stir G w w') (hn : ∀ j, F j → ¬ G j) : PoolAt B F p u n f k w' := by
  obtain ⟨sb, bp, v, h1, rfl⟩ := h
  exact ⟨sb, bp, v, h1.stay s hn, rfl⟩
theorem PoolAt.later (h : PoolAt B F p u n f k w) (hB : Below w.heap.size w w') : PoolAt B F p u n f k w' := h.stay (Stir.of_below (F := fun _ => False) hB) (fun _ _ e => e)
theorem PoolIs.p_ne (h : PoolIs B p sb bp v u n f k w) : p ≠ bp ∧ v.ownBlock ≠ some p ∧ sb ≠ bp ∧ v.ownBlock ≠ some sb ∧ p ≠ sb := by
  refine ⟨ne_of_heap h.obj h.place (by simp [PoolO]), fun e => ?_, ne_of_heap h.set h.place (by simp), fun e => ?_, ne_of_heap h.obj h.set (by simp [PoolO])⟩
  · obtain ⟨cur, hc⟩ := owns_cells h.row e
    rw [h.obj] at hc; simp [PoolO] at hc
  · obtain ⟨cur, hc⟩ := owns_cells h.row e
    rw [h.set] at hc; simp at hc

theorem left_any (h : PoolAt B F p u n f k w) :
    Calls Try.prog 13 #[.pointer (some ⟨p, 0, none⟩)] w fun e w' => e = .returned (.int .i64 ((ord u n f).length - k : Nat)) ∧ w = w' := by
  obtain ⟨sb, bp, v, h1, rfl⟩ := h
  have c := PoolO.c2 h1.obj
  generalize (ord u n f).length - k = L at *
  go_enter Try.func13, Try.ntmps13
  go_wp2
  go_ret
  exact ⟨rfl, rfl⟩
theorem pnext_any (h : PoolAt B F p u n f k w) :
    Calls Try.prog 15 #[.pointer (some ⟨p, 0, none⟩)] w fun e w' => e = .returned (.int .i64 (placeAt (ord u n f) f k)) ∧ w = w' := by
  obtain ⟨sb, bp, v, h1, rfl⟩ := h
  have c := PoolO.c1 h1.obj
  have C := where_any bp _ w h1.place
  generalize placeAt (ord u n f) f k = L at *
  go_enter Try.func15, Try.ntmps15
  go_wp2_with fail
  refine C.mono ?_
  rintro e w1 ⟨rfl, rfl⟩
  go_wp2
  go_ret
  exact ⟨rfl, rfl⟩
theorem ord_small {m : Nat} (hn : n ≤ 4096) (h : m ∈ (ord u n f).take k) : m ≤ 65535 := by
  have := (mem_frees.1 (mem_ord.1 (List.mem_of_mem_take h))).1
  omega
theorem taken_any (h : PoolAt B F p u n f k w) :
    Calls Try.prog 14 #[.pointer (some ⟨p, 0, none⟩)] w fun e w' => e = .returned (.string (bs (ofL (intsN ((ord u n f).take k))))) ∧ Below w.heap.size w w' := by
  obtain ⟨sb, bp, v, h1, rfl⟩ := h
  have c := PoolO.c3 h1.obj
  have hl := length_frees u n
  have hlo := length_ord u n f
  have hhi := h1.hi
  have C := of_any v (intsN ((ord u n f).take k)) (by rw [← intsN_is, length_toInts, List.length_take]; omega) w (owns_ints h1.row)
  rw [ofV_nats (fun m hm => ord_small h1.hi hm)] at C
  generalize bs (ofL (intsN ((ord u n f).take k))) = T at *
  obtain ⟨a, cap, rfl⟩ : ∃ a cap, v = .slice a ((ord u n f).take k).length cap := by
    rcases h1.row.2 with ⟨rfl, h0⟩ | ⟨g, cap, cur, rfl, _⟩
    · exact ⟨none, 0, by rw [h0]⟩
    · exact ⟨_, _, rfl⟩
  generalize ((ord u n f).take k).length = m at *
  clear h1 hl hlo hhi
  go_enter Try.func14, Try.ntmps14
  go_wp2_with fail
  refine C.mono ?_
  rintro e w1 ⟨rfl, hB1⟩
  have HB1 := Lib.hid hB1
  clear hB1 C
  go_wp2
  go_ret
  exact ⟨rfl, HB1.out⟩
theorem take_no (h : PoolAt B F p u n f k w) (hk : k = (ord u n f).length) :
    Calls Try.prog 16 #[.pointer (some ⟨p, 0, none⟩)] w fun e w' => e = .returned (.tuple #[.int .i64 0, .int .i64 101]) ∧ w = w' := by
  obtain ⟨sb, bp, v, h1, rfl⟩ := h
  have c := PoolO.c2 h1.obj
  rw [show (ord u n f).length - k = 0 by omega] at c
  clear h1 hk
  go_enter Try.func16, Try.ntmps16
  go_wp2
  go_ret2
  exact ⟨rfl, rfl⟩
set_option maxRecDepth 100000 in
set_option maxHeartbeats 2000000 in
theorem take_yes (h : PoolAt B F p u n f k w) (hk : k < (ord u n f).length) :
    Calls Try.prog 16 #[.pointer (some ⟨p, 0, none⟩)] w fun e w' => e = .returned (.tuple #[.int .i64 ((ord u n f)[k] : Nat), .int .i64 0]) ∧ ∃ F', PoolAt B F' p u n f (k + 1) w' ∧ Stir F w w' ∧ ∀ j, F' j → F j ∨ w.heap.size ≤ j := by
  obtain ⟨sb, bp, v, h1, rfl⟩ := h
  obtain ⟨a, cap, rfl⟩ : ∃ a cap, v = .slice a k cap := by
    have hlk : ((ord u n f).take k).length = k := by rw [List.length_take]; omega
    have hr := h1.row
    rw [hlk] at hr
    rcases hr.2 with ⟨rfl, h0⟩ | ⟨g, cap, cur, rfl, _⟩
    · exact ⟨none, 0, by rw [h0]⟩
    · exact ⟨_, _, rfl⟩
  obtain ⟨i0, hi, hz0, hz1, hz2⟩ := info_parts info3
  have hhi := h1.hi
  have hlen := length_freeT (u := u) (n := n) (by omega)
  have hpr := (placeAt_range (u := u) h1.f1 h1.f2 h1.le).2
  have C := step_any sb bp (freeT u n) hlen (placeAt (ord u n f) f k) (by omega) w h1.set h1.place
  unfold stepP at C
  obtain ⟨x, hx⟩ : ∃ x : Nat, (ord u n f)[k]'hk = x := ⟨_, rfl⟩
  have hnx := (next_ord (u := u) (by omega) hk).trans hx
  rw [hnx] at C
  have hin := ord_in hk
  rw [hx] at hin
  rw [hx]
  have hl1 := length_ord_lt u f (show 1 ≤ n by omega)
  obtain ⟨hp1, hp2, hp3, hp4, hp5⟩ := h1.p_ne
  have c0 := PoolO.c0 h1.obj
  have c2 := PoolO.c2 h1.obj
  have hlk : ((ord u n f).take k).length = k := by rw [List.length_take]; omega
  have hne0 : (((ord u n f).length - k : Nat) : Int) ≠ 0 := by omega
  have hdec : (((ord u n f).length - k : Nat) : Int) - 1 = (((ord u n f).length - (k + 1) : Nat) : Int) := by omega
  have HX := Lib.hid (show ints ((ord u n f).take (k + 1)) = ints ((ord u n f).take k) ++ [.int .i64 (x : Nat)] by
    rw [← hx]; rw [List.take_succ_eq_append_getElem hk]; unfold ints; rw [List.map_append]; rfl)
  have HPl := Lib.hid ((placeAt_succ (f := f) hk).trans (by rw [hx]))
  have HL1 := Lib.hid (show ((ord u n f).take (k + 1)).length = k + 1 by rw [List.length_take]; omega)
  have HLK := Lib.hid hlk
  have H1 := Lib.hid h1
  have hrow0 := h1.row
  rw [hlk] at hrow0
  have HR0 := Lib.hid hrow0
  have HLt := Lib.hid hk
  obtain ⟨L, hL⟩ : ∃ L, (ord u n f).length - k = L := ⟨_, rfl⟩
  obtain ⟨L', hL'⟩ : ∃ L', (ord u n f).length - (k + 1) = L' := ⟨_, rfl⟩
  have HL := Lib.hid hL
  have HL' := Lib.hid hL'
  rw [hL] at c2 hne0 hdec
  rw [hL'] at hdec
  have hk5 : k ≤ 4096 := by omega
  have hxl : (x : Int) ≤ 4096 := by omega
  have hLl : (L : Int) ≤ 5000 := by omega
  have hneb : ((L : Int) == 0) = false := by simpa using hne0
  clear hnx hx hL hL' hlk hrow0 h1 hpr hlen hl1 hin hk
  go_enter Try.func16, Try.ntmps16
  go_wp2_with fail
  refine C.mono ?_
  rintro e w2 ⟨rfl, w1, hB1, rfl⟩
  have hob1 := keeps_of hB1 H1.out.obj
  have hpl1 := H1.out.place.kept (grown_of_below hB1) (by simp)
  have hset1 := H1.out.set.kept (grown_of_below hB1) (by simp)
  have hrow1 : w1.ownsRow B 3 1 (.slice a k cap) k (ints ((ord u n f).take k)) := owns_keep HR0.out (fun j hj => hB1.block j (HR0.out.lt j hj).2)
  have hs1 := hB1.size
  obtain ⟨w2, hw2⟩ : ∃ w2, w1.setCell ⟨bp, 0, none⟩ (.int .i64 ((x : Int) + 1)) = w2 := ⟨_, rfl⟩
  have HST2 := Lib.hid (show Stir (PFoot p sb bp (.slice a k cap)) w w2 by rw [← hw2]; exact (Stir.of_below hB1).set (.inr (.inr (.inl rfl)) |> .inl) _)
  have hob2 : w2.heap[p]? = some (PoolO sb bp L (.slice a k cap)) := by rw [← hw2, ← HL.out]; exact heap_set_other hob1 hp1 _
  have hpl2 : Boxed w2 bp 3 (.int .i64 ((x : Int) + 1)) := by rw [← hw2]; exact hpl1.set _
  have hset2 : Boxed w2 sb 9 (.string (bs (freeT u n))) := by rw [← hw2]; exact hset1.other hp3 _
  have hrow2 : w2.ownsRow B 3 1 (.slice a k cap) k (ints ((ord u n f).take k)) := by
    rw [← hw2]
    exact owns_keep hrow1 (fun j hj => Below.heap_setCell _ _ _ _ (by rintro rfl; exact H1.out.apart hj))
  rw [hw2]
  clear hob1 hpl1 hset1 hrow1 hw2 C c0
  have d2 := PoolO.c2 hob2
  have g2 := PoolO.fr hob2 2
  have hob3 := PoolO.set2 hob2 L'
  have d3 := PoolO.c3 hob3
  have hszB : B ≤ w2.heap.size := Nat.le_trans H1.out.low.1 (Nat.le_of_lt (lt_of_heap hob2))
  have hrow3 : (w2.setCell ⟨p, 2, none⟩ (.int .i64 (L' : Int))).ownsRow B 3 1 (.slice a k cap) k (ints ((ord u n f).take k)) :=
    owns_keep hrow2 (fun j hj => Below.heap_setCell _ _ _ _ (by rintro rfl; exact hp2 hj))
  have hpl3 : Boxed (w2.setCell ⟨p, 2, none⟩ (.int .i64 (L' : Int))) bp 3 (.int .i64 ((x : Int) + 1)) := heap_set_other hpl2 (fun e => hp1 e.symm) _
  have hset3 : Boxed (w2.setCell ⟨p, 2, none⟩ (.int .i64 (L' : Int))) sb 9 (.string (bs (freeT u n))) := heap_set_other hset2 (fun e => hp5 e.symm) _
  have HST3 := Lib.hid (HST2.out.set (b := p) (i := 2) (.inl (.inl rfl)) (.int .i64 (L' : Int)))
  obtain ⟨w3, hw3⟩ : ∃ w3, w2.setCell ⟨p, 2, none⟩ (.int .i64 (L' : Int)) = w3 := ⟨_, rfl⟩
  rw [hw3] at hob3 d3 hrow3 hpl3 hset3 HST3
  have hszB3 : B ≤ w3.heap.size := by rw [← hw3]; simpa [World.setCell] using hszB
  have HR3 := Lib.hid hrow3
  have HO3 := Lib.hid hob3
  have HPl3 := Lib.hid hpl3
  have HSt3 := Lib.hid hset3
  clear hob2 hpl2 hset2 hrow2 hob3 hrow3 hpl3 hset3
  go_wp2_with (at_builtin; refine wpList_append_own_at _ rfl _ _ 24 rfl B 3 i0 (.int .i64 0) 1 8 Try.underlying24 hi hz0 hz1 hz2 rfl (by decide) (.slice a k cap) k _ rfl (HR3.out.alloc _) ⟨w3.heap.size, 0, none⟩ 1 1 [.int .i64 x] rfl rfl (cell_one_new _ _ _) (by simp [Value.oneCell']) (by unfold maxLen; omega) (by omega) (by rw [World.size_alloc]; omega) ?_; intro v' w4 hown' hgrow _ hat; obtain ⟨g', cap', rfl⟩ := ownsRow_succ hown'; have hob4 : w4.heap[p]? = some (PoolO sb bp L' (.slice a k cap)) := (hgrow.block p (lt_of_heap (heap_alloc_old HO3.out _)) (fun e => hp2 e.symm)).trans (heap_alloc_old HO3.out _); have e3 := PoolO.c3 hob4; have g3 := PoolO.fr hob4 3)
  have hlowg := (hown'.lt g' rfl).1
  have hpl4 := HPl3.out.alloc (.cells #[.int .i64 x] 3) |>.kept hgrow (fun e => H1.out.apart e.symm)
  have hset4 := HSt3.out.alloc (.cells #[.int .i64 x] 3) |>.kept hgrow (fun e => hp4 e.symm)
  have hgb : g' ≠ bp := fun e => by
    subst e
    rcases hat with h | h
    · exact H1.out.apart h.symm
    · have h5 : g' = (w3.alloc (.cells #[.int .i64 x] 3)).heap.size := by simpa [Value.ownBlock] using h
      have := (HPl3.out.alloc (.cells #[.int .i64 x] 3)).lt
      omega
  have hgp : g' ≠ p := fun e => by
    subst e
    obtain ⟨cur, hc⟩ := owns_cells hown' (k := g') rfl
    rw [hob4] at hc; simp [PoolO] at hc
  have hST4 : Stir (PFoot p sb bp (.slice a k cap)) w w4 := by
    have h5 : Stir (fun j => (Value.slice a k cap).ownBlock = some j) w3 w4 := by
      refine ⟨hgrow.os, hgrow.tape, hgrow.output, Nat.le_trans (by simp) hgrow.size, fun j hj hn => ?_⟩
      rw [hgrow.block j (by rw [World.size_alloc]; omega) (fun e => hn e.symm)]
      exact Below.heap_alloc w3 _ j hj
    exact HST3.out.trans h5 (fun j e => .inl (.inr (.inr (.inr e))))
  have HOut := Lib.hid (show PoolIs B p sb bp (.slice (some ⟨g', 0, none⟩) (k + 1) cap') u n f (k + 1) (w4.setCell ⟨p, 3, none⟩ (.slice (some ⟨g', 0, none⟩) (k + 1) cap')) from
    ⟨by rw [HL'.out]; exact PoolO.set3 hob4 _, heap_set_other hset4 (fun e => hp5 e.symm) _, by rw [HPl.out]; exact heap_set_other hpl4 (fun e => hp1 e.symm) _,
      by rw [HL1.out, HX.out]; exact owns_keep hown' (fun j hj => Below.heap_setCell _ _ _ _ (by rintro rfl; exact hgp (by simpa [Value.ownBlock] using hj))),
      by simpa [Value.ownBlock] using hgb, H1.out.low, HLt.out, H1.out.lo, H1.out.hi, H1.out.f1, H1.out.f2⟩)
  have HS5 := Lib.hid (hST4.set (b := p) (i := 3) (.inl (.inl rfl)) (.slice (some ⟨g', 0, none⟩) (k + 1) cap'))
  have HFo := Lib.hid (show ∀ j, PFoot p sb bp (.slice (some ⟨g', 0, none⟩) (k + 1) cap') j → PFoot p sb bp (.slice a k cap) j ∨ w.heap.size ≤ j from fun j hj => by
    rcases hj with e | e | e | e
    · exact .inl (.inl e)
    · exact .inl (.inr (.inl e))
    · exact .inl (.inr (.inr (.inl e)))
    · rcases hat with h | h
      · exact .inl (.inr (.inr (.inr (h.symm.trans e))))
      · right
        have h5 : j = (w3.alloc (.cells #[.int .i64 x] 3)).heap.size := by
          have := e.symm.trans h
          simpa using this
        have := HST3.out.size
        rw [World.size_alloc] at h5
        omega)
  clear hpl4 hset4 hown' hgrow hat hob4 hST4 hgb hgp hlowg
  go_wp2
  go_ret2
  exact ⟨rfl, _, ⟨sb, bp, _, HOut.out, rfl⟩, HS5.out, HFo.out⟩
end
end Go.Proofs.Ytknfakaklmpboaa

