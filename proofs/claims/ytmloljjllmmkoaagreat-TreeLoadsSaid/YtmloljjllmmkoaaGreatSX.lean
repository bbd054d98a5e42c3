/-
  Round / SetsD / SetsOfM / SetsE4 / SetsE / SetsE1 / SetsE2 / SetsE3 / LawKit / PlnMath / AlcMath.
-/
import Derived.RangeFuncCalls
import Derived.RangeFuncWrites
import Derived.RegionTactic
import Derived.OrdersIn
import Derived.Test.YtmloljjllmmkoaaGreatMA
import Derived.BigRegion
import Derived.Laws.OwnMore
namespace Go.Proofs.YtmloljjllmmkoaaGreat.Rd
open Go Go.RowKit

theorem rowsIn_of_rows {m : Nat} {P : Program} {l : Nat} {row : String} {args : Array Value} {w : World} {R : Value → World → Prop} (h : Rows P row args w R) : RowsIn (Fence.wide.inRound l) m P row args w R := by
  intro c cs _
  obtain ⟨v, w', r, s⟩ := h c cs
  exact ⟨v, w', r, stepsIn_wide.2 s⟩

theorem wpIn_of_wp {m : Nat} {P : Program} {l : Nat} {o : Oper} {a : Act} {w : World} {K : Act → World → Prop} {Q : Exit → Act → World → Prop} (hd : ∀ c, o.op ≠ .defer c) (h : o.wp P a w K Q) : o.wpIn (Fence.wide.inRound l) m P a w K Q := by
  refine ⟨fun _ _ => trivial, ?_⟩
  rw [show (Fence.wide.inRound l).round = some l from rfl, Oper.semAt_eq _ _ _ hd]
  unfold Oper.wp at h
  have hdep : ∀ {p : Prop}, (Fence.wide.inRound l).depth.isSome = true → p := fun e => by cases e
  generalize (execOp a.eval o).run P w = r at h
  cases r with
  | ok x w' =>
    cases x with
    | value v => exact h
    | skip => exact h
    | defer d => exact h
    | enter f args => exact ⟨hdep, CallsIn.inRound l (callsIn_wide.2 h)⟩
    | row r args => exact ⟨hdep, rowsIn_of_rows h⟩
    | _ => exact h.elim
  | halt x w' =>
    cases x with
    | panic v => exact h
    | _ => exact h.elim

theorem wpAnyIn_of_wpAny {m : Nat} {P : Program} {l : Nat} {md : Region.Mode} {ops : Array Oper} {Q : Exit → Act → World → Prop} (hd : ∀ (i : Nat) o, ops[i]? = some o → ∀ c, o.op ≠ .defer c) (hQ : ¬ LetsOut Q) :
    ∀ (fuel : Nat) (listed : Array Bool) (a : Act) (w : World), wpAny P md ops Q fuel listed a w → wpAnyIn (Fence.wide.inRound l) m P md ops Q fuel listed a w
  | 0, _, _, _, h => h
  | fuel + 1, listed, a, w, h => by
    refine ⟨h.1, fun i hi => ?_⟩
    have h2 := h.2 i hi
    unfold wpOp at h2
    unfold wpOpIn
    cases ho : ops[i]? with
    | none =>
      rw [ho] at h2
      exact wpAnyIn_of_wpAny hd hQ fuel _ _ _ h2
    | some o =>
      rw [ho] at h2
      simp only at h2 ⊢
      split
      · rename_i hw
        rw [if_pos hw] at h2
        rcases h2 with h2 | ⟨_, h2⟩
        · exact wpIn_of_wp (hd i o ho) (Oper.wp_mono (fun a w hk => wpAnyIn_of_wpAny hd hQ fuel _ a w hk) h2)
        · exact absurd h2 hQ
      · rename_i hw
        rw [if_neg hw] at h2
        exact ⟨fun _ _ => trivial, wpAnyIn_of_wpAny hd hQ fuel _ _ _ h2⟩

/-- A region in a round, met in every order by the plain words. -/
theorem region_any {m : Nat} {P : Program} {rd : Nat} {id : Nat} {Q : Exit → Act → World → Prop} {a : Act} {w : World} {l : List Oper} (hm : P.follows .mixedOrders = true)
    (hd : ∀ o ∈ l, ∀ c, o.op ≠ .defer c) (hQ : ¬ LetsOut Q)
    (h : wpAny P .any l.toArray Q l.length (Array.replicate l.length false) a w.drew) : (Code.region id l.toArray true).wpIn (Fence.wide.inRound rd) m P Q a w :=
  wpIn_region_any hm (wpAnyIn_of_wpAny (fun i o ho => hd o (by
    have := Array.mem_of_getElem? ho
    simpa using this)) hQ _ _ _ _ (by simpa using h))
end Go.Proofs.YtmloljjllmmkoaaGreat.Rd

namespace Go.Proofs.YtmloljjllmmkoaaGreat
open Go.RowKit Go.Shelf Go SM
attribute [local go_sem] Oper.semAt_some

/-- what a slice that owns its row holds, cell by cell -/
theorem row_cells {W : World} {base : Nat} {e : TypeId} {v : Value} {n : Nat} {xs : List Value} (h : W.ownsRow base e 1 v n xs) (hv : v ≠ .slice none 0 0) :
    ∃ g cap, v = .slice (some ⟨g, 0, none⟩) n cap ∧ base ≤ g ∧ g < W.heap.size ∧ n ≤ cap ∧ cap ≤ maxLen ∧ ∀ (i : Nat) u, xs[i]? = some u → W.cell? ⟨g, i, none⟩ = some u := by
  rcases h.2 with ⟨e, _⟩ | ⟨g, cap, cur, h1, h2, h3, h4, h5, h6, h7⟩
  · exact absurd e hv
  · refine ⟨g, cap, h1, h2, (Array.getElem?_eq_some_iff.1 h3).1, h4, h5, fun i u hu => ?_⟩
    have hi : i < n := by
      have := (List.getElem?_eq_some_iff.1 hu).1
      have := h.1
      omega
    rw [← h7, List.getElem?_take_of_lt (by omega)] at hu
    simp only [World.cell?, h3]
    simpa using hu

/-- boxes that are kept by an append to another box's slice -/
theorem keepB_appended {l : List (Nat × TypeId × Value)} {W w1 : World} {n₀ B : Nat} {e : TypeId} {v u : Value} {k : Nat} {xs : List Value} {tmp : Obj} (hl : ∀ p ∈ l, p.2.1 ≠ e ∧ p.1 ≠ B)
    (hrow : W.ownsRow n₀ e 1 v k xs) (hgrow : (W.alloc tmp).grownBy w1 v.ownBlock) : KeepB l W (w1.setCell ⟨B, 0, none⟩ u) := fun p hp h =>
  ((h.alloc tmp).kept hgrow (h.not_row (hl p hp).1 hrow)).other (hl p hp).2 u

theorem info5 : (Tryz.prog.info? 5).map (fun i => (i.zero, i.size, i.bytes)) = some (some (.int .u8 0), 1, 1) := by kernel_rfl

end Go.Proofs.YtmloljjllmmkoaaGreat

namespace Go.Proofs.YtmloljjllmmkoaaGreat.SM

def setBit (l : List UInt8) (z : Nat) : List UInt8 := l.set (z / 8) (bor (gd l (z / 8)) (UInt8.ofNat (2 ^ (z % 8) % 256)))
theorem length_setBit (l : List UInt8) (z : Nat) : (setBit l z).length = l.length := by simp [setBit]
theorem pow_tb : ∀ (a b : Fin 8), (UInt8.ofNat (2 ^ a.val % 256)).toNat.testBit b.val = decide (a.val = b.val) := by decide +kernel
theorem gd_set (l : List UInt8) (i : Nat) (x : UInt8) (h : i < l.length) (j : Nat) : gd (l.set i x) j = if i = j then x else gd l j := by
  simp only [gd, List.getD_eq_getElem?_getD, List.getElem?_set]
  split
  · rfl
  · rfl
theorem bit_setBit (l : List UInt8) (z m : Nat) (h : z / 8 < l.length) : bit (setBit l z) m = (bit l m || decide (m = z)) := by
  unfold bit setBit
  rw [gd_set _ _ _ h]
  split
  · rename_i e
    rw [tb_bor, ← e, pow_tb ⟨z % 8, Nat.mod_lt _ (by decide)⟩ ⟨m % 8, Nat.mod_lt _ (by decide)⟩]
    congr 1
    simp only [decide_eq_decide]
    omega
  · rename_i e
    have : m ≠ z := fun h => e (by rw [h])
    simp [this]
theorem length_fold (zs : List Nat) : ∀ l : List UInt8, (zs.foldl setBit l).length = l.length := by
  induction zs with
  | nil => intro l; rfl
  | cons z zs ih => intro l; rw [List.foldl_cons, ih, length_setBit]
theorem bit_fold (zs : List Nat) : ∀ (l : List UInt8), (∀ z ∈ zs, z / 8 < l.length) → ∀ m, bit (zs.foldl setBit l) m = (bit l m || decide (m ∈ zs)) := by
  induction zs with
  | nil => intro l _ m; simp
  | cons z zs ih =>
    intro l h m
    rw [List.foldl_cons, ih _ (fun y hy => by rw [length_setBit]; exact h y (by simp [hy])), bit_setBit _ _ _ (h z (by simp)), Bool.or_assoc]
    congr 1
    simp
theorem bit_ext {a b : List UInt8} (h : ∀ n, bit a n = bit b n) : ∀ i, gd a i = gd b i := fun i => u8_ext fun k hk => by
  have := h (8 * i + k)
  unfold bit at this
  rwa [show (8 * i + k) / 8 = i by omega, show (8 * i + k) % 8 = k by omega] at this
theorem bit_zeros (n m : Nat) : bit (List.replicate n 0) m = false := by simp [bit, gd_zeros]
/-- a list of bytes that ends with a number of its own is its own least list -/
theorem least_self {l : List UInt8} {z : Nat} (h : bit l z = true) (hl : l.length = z / 8 + 1) : least l = l := by
  have hlast : gd l (z / 8) ≠ 0 := fun e => by rw [bit, e] at h; simp at h
  cases hc : l.reverse with
  | nil => have : l = [] := by simpa using hc
           subst this; simp at hl
  | cons x r =>
    have hx : l = r.reverse ++ [x] := by
      have := congrArg List.reverse hc
      simpa using this
    rw [hx, least_snoc, if_neg]
    intro e
    apply hlast
    rw [hx, gd_append, if_neg (by rw [hx] at hl; simp at hl ⊢; omega)]
    rw [hx] at hl
    simp at hl
    simp [gd, hl, e]

def mostI (zs : List Int) : Int := zs.foldl max (-1)
theorem mostI_snoc (zs : List Int) (z : Int) : mostI (zs ++ [z]) = max (mostI zs) z := by simp [mostI]
theorem mostI_ge : ∀ (zs : List Int) (a : Int), a ≤ zs.foldl max a ∧ ∀ z ∈ zs, z ≤ zs.foldl max a
  | [], a => by simp
  | y :: zs, a => by
    have := mostI_ge zs (max a y)
    refine ⟨by rw [List.foldl_cons]; omega, fun z hz => ?_⟩
    rw [List.foldl_cons]
    rcases List.mem_cons.1 hz with rfl | hz
    · omega
    · exact this.2 z hz
theorem mostI_mem : ∀ (zs : List Int) (a : Int), zs.foldl max a = a ∨ zs.foldl max a ∈ zs
  | [], a => .inl rfl
  | y :: zs, a => by
    rw [List.foldl_cons]
    rcases mostI_mem zs (max a y) with h | h
    · rw [h]
      by_cases hy : a ≤ y
      · right; rw [Int.max_eq_right hy]; simp
      · left; omega
    · right; simp [h]
theorem mostI_le (zs : List Int) (B : Int) (hB : -1 ≤ B) (h : ∀ z ∈ zs, z ≤ B) : mostI zs ≤ B := by
  rcases mostI_mem zs (-1) with e | e
  · unfold mostI; omega
  · exact h _ e
theorem mostI_lo (zs : List Int) : -1 ≤ mostI zs := (mostI_ge zs (-1)).1

/-- are all of these numbers of a set? -/
def okI (zs : List Int) : Bool := zs.all fun z => decide (0 ≤ z ∧ z ≤ 65535)
def lenI (zs : List Int) : Nat := ((mostI zs + 8) / 8).toNat
def natsI (zs : List Int) : List Nat := zs.map Int.toNat
/-- the set of these numbers -/
def ofL (zs : List Int) : List UInt8 := (natsI zs).foldl setBit (List.replicate (lenI zs) 0)
theorem okI_mem {zs : List Int} (h : okI zs = true) {z : Int} (hz : z ∈ zs) : 0 ≤ z ∧ z ≤ 65535 := by
  have := List.all_eq_true.1 h z hz
  simpa using this
theorem lenI_lt {zs : List Int} {z : Int} (hz : z ∈ zs) (h0 : 0 ≤ z) : z.toNat / 8 < lenI zs := by
  have h := (mostI_ge zs (-1)).2 z hz
  have h2 : z ≤ mostI zs := h
  unfold lenI; omega
theorem lenI_le {zs : List Int} (h : okI zs = true) : lenI zs ≤ 8192 := by
  have := mostI_le zs 65535 (by omega) (fun z hz => (okI_mem h hz).2)
  unfold lenI; omega
theorem bit_ofL {zs : List Int} (h : okI zs = true) (m : Nat) : bit (ofL zs) m = decide ((m : Int) ∈ zs) := by
  unfold ofL
  rw [bit_fold _ _ (fun z hz => by
    simp only [natsI, List.mem_map] at hz
    obtain ⟨y, hy, rfl⟩ := hz
    simpa using lenI_lt hy (okI_mem h hy).1), bit_zeros, Bool.false_or]
  simp only [decide_eq_decide, natsI, List.mem_map]
  constructor
  · rintro ⟨y, hy, rfl⟩
    have := (okI_mem h hy).1
    rwa [Int.toNat_of_nonneg this]
  · intro hm
    exact ⟨m, hm, by simp⟩
theorem length_ofL (zs : List Int) : (ofL zs).length = lenI zs := by simp [ofL, length_fold]
theorem least_ofL {zs : List Int} (h : okI zs = true) : least (ofL zs) = ofL zs := by
  rcases mostI_mem zs (-1) with e | e
  · have : lenI zs = 0 := by unfold lenI mostI; rw [e]; decide
    have hl := length_ofL zs
    rw [this] at hl
    rw [List.eq_nil_of_length_eq_zero hl]; rfl
  · have h0 := (okI_mem h e).1
    have hm : mostI zs = ((mostI zs).toNat : Int) := (Int.toNat_of_nonneg h0).symm
    refine least_self (z := (mostI zs).toNat) ?_ ?_
    · rw [bit_ofL h, ← hm]; exact decide_eq_true e
    · rw [length_ofL]; unfold lenI; omega
/-- whatever list has just these numbers: its least list is the set -/
theorem ofL_eq {zs : List Int} (h : okI zs = true) {l : List UInt8} (hl : ∀ m : Nat, bit l m = decide ((m : Int) ∈ zs)) : least l = ofL zs := by
  rw [← least_ofL h]
  exact least_ext (bit_ext fun n => by rw [hl, bit_ofL h])
/-! ### As the reference makes it -/
def stepR (l : List UInt8) (z : Nat) : List UInt8 := setBit (l ++ List.replicate (z / 8 + 1 - l.length) 0) z
def rofL (zs : List Int) : List UInt8 := (natsI zs).foldl stepR []
theorem bit_pad (l : List UInt8) (n m : Nat) : bit (l ++ List.replicate n 0) m = bit l m := by
  unfold bit
  rw [gd_append]
  split
  · rfl
  · rw [gd_zeros, gd_ge (by omega)]
theorem bit_stepR (l : List UInt8) (z m : Nat) : bit (stepR l z) m = (bit l m || decide (m = z)) := by
  unfold stepR
  rw [bit_setBit _ _ _ (by simp; omega), bit_pad]
theorem bit_foldR (zs : List Nat) : ∀ (l : List UInt8) m, bit (zs.foldl stepR l) m = (bit l m || decide (m ∈ zs)) := by
  induction zs with
  | nil => intro l m; simp
  | cons z zs ih =>
    intro l m
    rw [List.foldl_cons, ih, bit_stepR, Bool.or_assoc]
    congr 1
    simp
def Ends (l : List UInt8) : Prop := l = [] ∨ ∃ z, bit l z = true ∧ l.length = z / 8 + 1
theorem ends_stepR {l : List UInt8} (h : Ends l) (z : Nat) : Ends (stepR l z) := by
  right
  have hlen : (stepR l z).length = max l.length (z / 8 + 1) := by unfold stepR; rw [length_setBit]; simp; omega
  by_cases hz : l.length ≤ z / 8 + 1
  · exact ⟨z, by rw [bit_stepR]; simp, by rw [hlen]; omega⟩
  · rcases h with rfl | ⟨y, hy, hl⟩
    · simp at hz
    · exact ⟨y, by rw [bit_stepR, hy]; rfl, by rw [hlen]; omega⟩
theorem ends_foldR (zs : List Nat) : ∀ l : List UInt8, Ends l → Ends (zs.foldl stepR l) := by
  induction zs with
  | nil => intro l h; exact h
  | cons z zs ih => intro l h; exact ih _ (ends_stepR h z)
theorem rofL_eq {zs : List Int} (h : okI zs = true) : rofL zs = ofL zs := by
  have hb : ∀ m : Nat, bit (rofL zs) m = decide ((m : Int) ∈ zs) := fun m => by
    unfold rofL
    rw [bit_foldR]
    rw [show bit [] m = false by simp [bit, gd_nil], Bool.false_or]
    simp only [decide_eq_decide, natsI, List.mem_map]
    constructor
    · rintro ⟨y, hy, rfl⟩
      have := (okI_mem h hy).1
      rwa [Int.toNat_of_nonneg this]
    · intro hm
      exact ⟨m, hm, by simp⟩
  rw [← ofL_eq h hb]
  rcases ends_foldR (natsI zs) [] (.inl rfl) with e | ⟨z, hz, hl⟩
  · unfold rofL; rw [e]; rfl
  · exact (least_self hz hl).symm
theorem rofL_take (zs : List Int) (k : Nat) (h : k < zs.length) : rofL (zs.take (k + 1)) = stepR (rofL (zs.take k)) zs[k].toNat := by
  unfold rofL natsI
  rw [List.take_succ_eq_append_getElem h, List.map_append, List.foldl_append]; rfl
theorem length_rofL_le {zs : List Int} (h : okI zs = true) : (rofL zs).length ≤ 8192 := by
  rw [rofL_eq h, length_ofL]; exact lenI_le h
end Go.Proofs.YtmloljjllmmkoaaGreat.SM

namespace Go.Proofs.YtmloljjllmmkoaaGreat
open Go.RowKit Go.Shelf Go SM

theorem mostI_take (zs : List Int) (k : Nat) (h : k < zs.length) : mostI (zs.take (k + 1)) = max (mostI (zs.take k)) zs[k] := by
  rw [List.take_succ_eq_append_getElem h, mostI_snoc]
theorem okI_take (zs : List Int) (k : Nat) (h : k < zs.length) : okI (zs.take (k + 1)) = (okI (zs.take k) && decide (0 ≤ zs[k] ∧ zs[k] ≤ 65535)) := by
  unfold okI
  rw [List.take_succ_eq_append_getElem h, List.all_append]; simp

set_option maxRecDepth 100000 in
set_option maxHeartbeats 2000000 in
/-- a number of the list is none of a set -/
theorem of_no (b off cap : Nat) (zs : List Int) (hz : zs.length ≤ 281474976710656) (hbad : okI zs = false) (w : World)
    (hc : ∀ j (h : j < zs.length), w.cell? ⟨b, off + j, none⟩ = some (.int .i64 zs[j])) :
    Calls Tryz.prog 101 #[.slice (some ⟨b, off, none⟩) zs.length cap] w fun e w' => e = .returned (.tuple #[.string ⟨#[]⟩, .int .i64 10]) ∧ w = w' := by
  have HC := Lib.hid hc
  have HB := Lib.hid hbad
  clear hc hbad
  go_enter Tryz.func101, Tryz.ntmps101
  go_wp2
  go_loop [4, 6, 12] (fun m _ i => ∃ k : Nat, k ≤ zs.length ∧ i = .int .i64 k ∧ m = .int .i64 (mostI (zs.take k)) ∧ okI (zs.take k) = true) (fun _ _ i => zs.length - (intOf i).toNat)
  case atStart => exact ⟨0, Nat.zero_le _, rfl, rfl, rfl⟩
  case round =>
    obtain ⟨k, hk, rfl, rfl, hok⟩ := hrel
    have HO := Lib.hid hok
    clear hok
    by_cases hlt : k < zs.length
    · have hcell := HC.out k hlt
      by_cases hin : 0 ≤ zs[k] ∧ zs[k] ≤ 65535
      · obtain ⟨hlo, hhi⟩ := hin
        have HM := Lib.hid (mostI_take zs k hlt)
        have HN := Lib.hid (show okI (zs.take (k + 1)) = true by rw [okI_take zs k hlt, HO.out]; simp [hlo, hhi])
        generalize zs[k] = z at *
        go_wp2
        go_round
        case rel => exact ⟨k + 1, by omega, by go_num, by rw [HM.out], HN.out⟩
        case measure => simp [intOf]; omega
      · by_cases hlo : 0 ≤ zs[k]
        · have hhi : 65535 < zs[k] := by omega
          clear hin
          generalize zs[k] = z at *
          go_wp2
          go_ret2
          exact ⟨rfl, rfl⟩
        · have hlo2 : zs[k] < 0 := by omega
          clear hin hlo
          generalize zs[k] = z at *
          go_wp2
          go_ret2
          exact ⟨rfl, rfl⟩
    · have : okI zs = true := by
        have := HO.out
        rwa [List.take_of_length_le (by omega)] at this
      rw [HB.out] at this; cases this

/-- a row of bytes of the call's own, at block g: each may be written -/
def RowAt (W : World) (g : Nat) (bs : List UInt8) : Prop := ∀ i, i < bs.length → W.cell? ⟨g, i, none⟩ = some (.int .u8 (gd bs i).toNat) ∧ W.frozen? ⟨g, i, none⟩ = false
theorem RowAt.new (w : World) (n : Nat) : RowAt (w.alloc (.cells (madeCells #[.int .u8 0] n) 5)) w.heap.size (List.replicate n 0) := fun i hi => by
  rw [List.length_replicate] at hi
  have h := World.alloc_heap_new w (.cells (madeCells #[.int .u8 0] n) 5)
  refine ⟨?_, ?_⟩
  · simp only [World.cell?, h, gd_zeros]
    have e : (madeCells #[Value.int .u8 0] n).toList[i]? = some (.int .u8 0) := by
      rw [toList_madeCells_one]; simp [hi]
    simpa using e
  · exact World.frozen?_alloc_at _ _ _ _ rfl
theorem RowAt.set {W : World} {g : Nat} {bs : List UInt8} (h : RowAt W g bs) (j : Nat) (x : UInt8) (hj : j < bs.length) : RowAt (W.setCell ⟨g, j, none⟩ (.int .u8 x.toNat)) g (bs.set j x) := fun i hi => by
  rw [List.length_set] at hi
  rw [gd_set _ _ _ hj, World.frozen?_setCell]
  refine ⟨?_, (h i hi).2⟩
  split
  · rename_i e
    subst e
    exact World.cell?_setCell_same _ _ _ (h j hj).1
  · rename_i e
    rw [World.cell?_setCell_other _ _ _ _ (by intro e2; cases e2; exact e rfl)]
    exact (h i hi).1

theorem bits_or_bit (x : UInt8) (z : Nat) : bits .or .u8 (x.toNat : Int) (2 ^ (z % 8) % 256) = ((bor x (UInt8.ofNat (2 ^ (z % 8) % 256))).toNat : Int) := by
  rw [← bits_or]
  congr 1
  have : 2 ^ (z % 8) % 256 < 256 := Nat.mod_lt _ (by decide)
  simp

set_option maxRecDepth 100000 in
set_option maxHeartbeats 4000000 in
theorem of_yes (b off cap : Nat) (zs : List Int) (hz : zs.length ≤ 281474976710656) (hgood : okI zs = true) (w : World) (hbw : b < w.heap.size)
    (hc : ∀ j (h : j < zs.length), w.cell? ⟨b, off + j, none⟩ = some (.int .i64 zs[j])) :
    Calls Tryz.prog 101 #[.slice (some ⟨b, off, none⟩) zs.length cap] w fun e w' => e = .returned (.tuple #[str (ofL zs), .int .i64 0]) ∧ Below w.heap.size w w' := by
  have HC := Lib.hid hc
  have HO := Lib.hid hgood
  clear hc hgood
  obtain ⟨i0, hi, hz0, hz1, hz2⟩ := info_parts info5
  go_enter Tryz.func101, Tryz.ntmps101
  go_wp2
  go_loop [4, 6, 12] (fun m _ i => ∃ k : Nat, k ≤ zs.length ∧ i = .int .i64 k ∧ m = .int .i64 (mostI (zs.take k))) (fun _ _ i => zs.length - (intOf i).toNat)
  case atStart => exact ⟨0, Nat.zero_le _, rfl, rfl⟩
  case round =>
    obtain ⟨k, hk, rfl, rfl⟩ := hrel
    by_cases hlt : k < zs.length
    · have hcell := HC.out k hlt
      obtain ⟨hlo, hhi⟩ := okI_mem HO.out (List.getElem_mem hlt)
      have HM := Lib.hid (mostI_take zs k hlt)
      generalize zs[k] = z at *
      go_wp2
      go_round
      case rel => exact ⟨k + 1, by omega, by go_num, by rw [HM.out]⟩
      case measure => simp [intOf]; omega
    · obtain rfl : k = zs.length := by omega
      have h1 := mostI_lo zs
      have h2 := mostI_le zs 65535 (by omega) (fun z hz => (okI_mem HO.out hz).2)
      rw [List.take_length]
      have hL : (mostI zs + 8) / 8 = (lenI zs : Int) := by unfold lenI; omega
      have hle := lenI_le HO.out
      generalize mostI zs = m at h1 h2 hL
      have HL := Lib.hid hL
      clear hL
      have hmk := run_makeSlice (P := Tryz.prog) (w := w) 85 5 i0 (.int .u8 0) Tryz.underlying85 hi hz0 .i64 .i64 ((m + 8) / 8) ((m + 8) / 8) (by omega) (by omega) (by rw [hz1]; omega) (by rw [hz2]; omega) (by omega)
      rw [hz1, Nat.mul_one, HL.out, Int.toNat_natCast, show Value.cells (.int .u8 0) = #[.int .u8 0] from rfl, ← HL.out] at hmk
      have HMK := Lib.hid hmk
      have hrun := HMK.out
      clear HMK hmk
      go_wp2
      clear hrun
      have hl0 : (List.replicate (lenI zs) (0 : UInt8)).length = lenI zs := by simp
      go_loopw [9, 32] (fun _ i wr => ∃ k : Nat, k ≤ zs.length ∧ i = .int .i64 k ∧ RowAt wr w.heap.size ((natsI (zs.take k)).foldl setBit (List.replicate (lenI zs) 0)) ∧ Below w.heap.size w wr) (fun _ i _ => zs.length - (intOf i).toNat)
      case atStart => exact ⟨0, Nat.zero_le _, rfl, RowAt.new w (lenI zs), (Below.refl _ w).alloc (Nat.le_refl _) _⟩
      case round =>
        obtain ⟨k, hk, rfl, hrow, hB⟩ := hrel
        by_cases hlt : k < zs.length
        · have hcell : wr.cell? ⟨b, off + k, none⟩ = some (.int .i64 zs[k]) := (hB.cell (p := ⟨b, off + k, none⟩) hbw).trans (HC.out k hlt)
          obtain ⟨hlo, hhi⟩ := okI_mem HO.out (List.getElem_mem hlt)
          have hzl := lenI_lt (List.getElem_mem hlt) hlo
          have hfold : (natsI (zs.take (k + 1))).foldl setBit (List.replicate (lenI zs) 0) = setBit ((natsI (zs.take k)).foldl setBit (List.replicate (lenI zs) 0)) zs[k].toNat := by
            unfold natsI
            rw [List.take_succ_eq_append_getElem hlt, List.map_append, List.foldl_append]; rfl
          have hfl := length_fold (natsI (zs.take k)) (List.replicate (lenI zs) 0)
          rw [hl0] at hfl
          generalize (natsI (zs.take k)).foldl setBit (List.replicate (lenI zs) 0) = bs at hrow hfold hfl
          obtain ⟨z, hz2⟩ : ∃ z : Nat, zs[k] = (z : Int) := ⟨zs[k].toNat, (Int.toNat_of_nonneg hlo).symm⟩
          rw [hz2] at hcell hlo hhi hzl hfold
          rw [Int.toNat_natCast] at hzl hfold
          obtain ⟨hc8, hf8⟩ := hrow (z / 8) (by omega)
          have hset := hrow.set (z / 8) (bor (gd bs (z / 8)) (UInt8.ofNat (2 ^ (z % 8) % 256))) (by omega)
          have hbits := bits_or_bit (gd bs (z / 8)) z
          rw [show bs.set (z / 8) (bor (gd bs (z / 8)) (UInt8.ofNat (2 ^ (z % 8) % 256))) = setBit bs z from rfl, ← hfold] at hset
          have HS := Lib.hid hset
          have hzi : (z : Int) / 8 < (lenI zs : Int) := by omega
          clear hset hfold hz2 hfl
          generalize bor (gd bs (z / 8)) (UInt8.ofNat (2 ^ (z % 8) % 256)) = x at hbits HS
          go_wp2
          go_region
          all_goals go_wp2
          go_roundw
          case rel => exact ⟨k + 1, by omega, by go_num, HS.out, (hB.setCell (p := ⟨w.heap.size, z / 8, none⟩) (Nat.le_refl _) _).drew⟩
          case measure => simp [intOf]; omega
        · obtain rfl : k = zs.length := by omega
          rw [List.take_length, show (natsI zs).foldl setBit (List.replicate (lenI zs) 0) = ofL zs from rfl] at hrow
          have hconv : (convert 85 9 (.slice (some ⟨w.heap.size, 0, none⟩) (ofL zs).length (lenI zs))).run Tryz.prog wr = .ok (str (ofL zs)) wr :=
            run_convert_bytes_back wr 85 9 5 ⟨w.heap.size, 0, none⟩ (lenI zs) (ofL zs) Tryz.underlying85 Tryz.underlying5 Tryz.underlying9 (fun j hj => by
              rw [Addr.add_lit, Nat.zero_add, (hrow j hj).1, gd_lt hj])
          rw [length_ofL] at hconv
          go_wp2
          go_ret2
          exact ⟨rfl, hB⟩
/-- a list of no number: a nil one, too -/
theorem of_nil (a : Option Addr) (cap : Nat) (w : World) :
    Calls Tryz.prog 101 #[.slice a 0 cap] w fun e w' => e = .returned (.tuple #[str [], .int .i64 0]) ∧ Below w.heap.size w w' := by
  obtain ⟨i0, hi, hz0, hz1, hz2⟩ := info_parts info5
  have hmk := run_makeSlice (P := Tryz.prog) (w := w) 85 5 i0 (.int .u8 0) Tryz.underlying85 hi hz0 .i64 .i64 0 0 (by omega) (by omega) (by simp) (by simp) (by omega)
  have hconv : (convert 85 9 (.slice (some ⟨w.heap.size, 0, none⟩) 0 0)).run Tryz.prog (w.alloc (.cells (madeCells #[.int .u8 0] 0) 5)) = .ok (str []) (w.alloc (.cells (madeCells #[.int .u8 0] 0) 5)) :=
    run_convert_bytes_back _ 85 9 5 ⟨w.heap.size, 0, none⟩ 0 [] Tryz.underlying85 Tryz.underlying5 Tryz.underlying9 (fun j hj => by cases hj)
  go_enter Tryz.func101, Tryz.ntmps101
  go_wp2
  refine wp_loop_rounds 1 ?_
  rw [rounds_succ]
  go_wp2
  refine wp_loop_rounds 1 ?_
  rw [rounds_succ]
  go_wp2
  go_ret2
  exact ⟨rfl, (Below.refl _ w).alloc (Nat.le_refl _) _⟩
/-- a list of numbers, as a slice that is read: nil, or its cells -/
def IntsAt (W : World) (v : Value) (zs : List Int) : Prop :=
  (v = .slice none 0 0 ∧ zs = []) ∨ ∃ b off cap, v = .slice (some ⟨b, off, none⟩) zs.length cap ∧ b < W.heap.size ∧ ∀ j (h : j < zs.length), W.cell? ⟨b, off + j, none⟩ = some (.int .i64 zs[j])
/-- what Of answers -/
def ofV (zs : List Int) : Value := if okI zs then .tuple #[str (ofL zs), .int .i64 0] else .tuple #[str [], .int .i64 10]

theorem of_any (v : Value) (zs : List Int) (hz : zs.length ≤ 281474976710656) (w : World) (h : IntsAt w v zs) :
    Calls Tryz.prog 101 #[v] w fun e w' => e = .returned (ofV zs) ∧ Below w.heap.size w w' := by
  rcases h with ⟨rfl, rfl⟩ | ⟨b, off, cap, rfl, hb, hc⟩
  · exact (of_nil none 0 w).mono fun e w' h => ⟨h.1, h.2⟩
  · cases hok : okI zs with
    | true =>
      refine (of_yes b off cap zs hz hok w hb hc).mono fun e w' h => ⟨?_, h.2⟩
      rw [h.1, ofV, if_pos hok]
    | false =>
      refine (of_no b off cap zs hz hok w hc).mono fun e w' h => ⟨?_, ?_⟩
      · rw [h.1, ofV, hok]; rfl
      · obtain ⟨_, rfl⟩ := h; exact Below.refl _ _
end Go.Proofs.YtmloljjllmmkoaaGreat

namespace Go.Proofs.YtmloljjllmmkoaaGreat
open Go.RowKit Go.Shelf Go SM
attribute [local go_sem] Oper.semAt_some

abbrev encs1 (p : Nat) : Array Value := #[.int .i64 p]
/-- what is still to come at byte i with the mask m -/
def restN (l : List UInt8) (i : Nat) (m : UInt8) : List Nat := if i < l.length then seg (band (gd l i) m) i ++ segs l (i + 1) (l.length - (i + 1)) else []
theorem nums_rest (l : List UInt8) (f : Nat) : nums l f = restN l (f / 8) (mask0 f) := rfl
theorem band_255 (b : UInt8) : band b 255 = b := u8_ext fun k hk => by
  have e : mask0 0 = 255 := by decide +kernel
  rw [tb_band, ← e, tb_mask _ _ hk]; simp
theorem mask0_int (f : Nat) : ((mask0 f).toNat : Int) = 255 * 2 ^ (f % 8) % 256 := by
  unfold mask0
  simp
theorem restN_full (l : List UInt8) (i : Nat) : restN l i 255 = segs l i (l.length - i) := by
  unfold restN
  split
  · rename_i h
    rw [show l.length - i = (l.length - (i + 1)) + 1 by omega, segs, band_255]
  · rw [show l.length - i = 0 by omega]; rfl
theorem seg_zero (i : Nat) : seg 0 i = [] := by simp [seg, bitsOf_zero]
theorem seg_step (b : UInt8) (i : Nat) (h : b ≠ 0) : seg b i = (8 * i + Lib.trailingZeros8 b.toNat) :: seg (band b (b - 1)) i := by
  rw [seg, bitsOf_step b h]; rfl
theorem u8_sub_one (b : UInt8) (h : b ≠ 0) : ((b - 1).toNat : Int) = (b.toNat : Int) - 1 := by
  have h0 : b.toNat ≠ 0 := fun e => h (UInt8.toNat_inj.1 (by simpa using e))
  have := b.toNat_lt
  have e : (b - 1).toNat = b.toNat - 1 := by
    rw [UInt8.toNat_sub]; simp; omega
  omega
theorem band_lt (b : UInt8) (h : b ≠ 0) : (band b (b - 1)).toNat < b.toNat := by
  have h0 : b.toNat ≠ 0 := fun e => h (UInt8.toNat_inj.1 (by simpa using e))
  have e := u8_sub_one b h
  have : (band b (b - 1)).toNat ≤ (b - 1).toNat := by simp only [band, UInt8.toNat_and]; exact Nat.and_le_right
  omega

set_option maxRecDepth 100000 in
set_option maxHeartbeats 2000000 in
theorem numbers1_in (n : Nat) (hn : 2 ≤ n) (l Bf Bs : Nat) (s : ByteArray) (f : Nat) (hs : s.size ≤ 140737488355328) (hf : f ≤ 9223372036854775807) (J Jx : List Nat → World → Prop)
    (hY : ∀ pre x W, J pre W → pre.length < (nums s.data.toList f).length → YieldAt Fence.wide (n - 1) Tryz.prog l (encs1 x) W fun e W' =>
      (e = .returned (.bool true) ∧ J (pre ++ [x]) W' ∧ KeepB [(Bs, 9, .string s)] W W') ∨ (e = .returned (.bool false) ∧ Jx (pre ++ [x]) W'))
    (W : World) (hBf : Boxed W Bf 3 (.int .i64 f)) (hBs : Boxed W Bs 9 (.string s)) (h0 : J [] W) :
    CallsIn Fence.wide n Tryz.prog 136 #[.func (.yield l) #[] #[], .pointer (some ⟨Bf, 0, none⟩), .pointer (some ⟨Bs, 0, none⟩)] W fun e W' => (∃ v, e = .returned v) ∧
      ((∃ ys, ys = nums s.data.toList f ∧ J ys W') ∨ (∃ pre, pre <+: nums s.data.toList f ∧ Jx pre W')) := by
  have hcf := hBf.cell
  have hcs := hBs.cell
  have hro : Fence.wide.round = none := rfl
  refine callsIn_of_wp Tryz.func136 rfl trivial ?_ rfl
  simp only [Tryz.ntmps136, List.size_toArray, List.length_cons, List.length_nil, Nat.reduceAdd, Nat.reduceSub, Array.replicate_succ, Array.replicate_zero, List.push_toArray, List.append_toArray, List.nil_append, List.cons_append]
  gi_wp2
  gi_loopw [4, 5] (fun m i wr => ∃ (k : Nat) (mk : UInt8) (pre : List Nat), k ≤ max s.size (f / 8) ∧ i = .int .i64 k ∧ m = .int .u8 mk.toNat ∧ Boxed wr Bs 9 (.string s) ∧ nums s.data.toList f = pre ++ restN s.data.toList k mk ∧ J pre wr)
    (fun _ i _ => max s.size (f / 8) - (intOf i).toNat)
  case atStart => exact ⟨f / 8, mask0 f, [], Nat.le_max_right _ _, by simp, by rw [mask0_int], hBs, nums_rest _ _, h0⟩
  case round =>
    obtain ⟨k, mk, pre, hk, rfl, rfl, hbs, hN, hj⟩ := hrel
    have hcs := hbs.cell
    by_cases hlt : k < s.size
    · have hb : bits .and .u8 (s[k].toNat : Int) (mk.toNat : Int) = ((band (gd s.data.toList k) mk).toNat : Int) := by rw [bits_and, gd_get hlt]
      rw [restN, if_pos (by simpa using hlt)] at hN
      generalize band (gd s.data.toList k) mk = b0 at hb hN
      have HN := Lib.hid hN
      clear hN
      gi_wp2
      clear hb hcs
      obtain ⟨wo, rfl⟩ : ∃ wo : World, wo = wr := ⟨_, rfl⟩
      gi_loopw [6] (fun b wr => ∃ (bb : UInt8) (pre : List Nat), b = .int .u8 bb.toNat ∧ Boxed wr Bs 9 (.string s) ∧ nums s.data.toList f = pre ++ (seg bb k ++ segs s.data.toList (k + 1) (s.data.toList.length - (k + 1))) ∧ J pre wr)
        (fun b _ => (intOf b).toNat)
      case atStart => exact ⟨b0, pre, rfl, hbs, HN.out, hj⟩
      case round =>
        obtain ⟨bb, pre2, rfl, hbs2, hN2, hj2⟩ := hrel
        have hcs := hbs2.cell
        by_cases hz : bb = 0
        · subst hz
          rw [seg_zero, List.nil_append, show s.data.toList.length - (k + 1) = s.data.toList.length - (k + 1) from rfl, ← restN_full] at hN2
          have HN2 := Lib.hid hN2
          clear hN2
          have hz2 : (((0 : UInt8).toNat : Int) != 0) = false := by decide
          gi_wp2
          go_roundw
          case rel => exact ⟨k + 1, 255, pre2, by omega, by go_num, rfl, hbs2, HN2.out, hj2⟩
          case measure => simp [intOf]; omega
        · rw [seg_step bb k hz] at hN2
          have htz : Lib.trailingZeros8 bb.toNat ≤ 8 := Lib.trailingZeros8_le8 ⟨bb.toNat, bb.toNat_lt⟩
          have hY1 := hY pre2 (8 * k + Lib.trailingZeros8 bb.toNat) wr hj2 (by rw [hN2]; simp)
          have HN3 := Lib.hid (show nums s.data.toList f = (pre2 ++ [8 * k + Lib.trailingZeros8 bb.toNat]) ++ (seg (band bb (bb - 1)) k ++ segs s.data.toList (k + 1) (s.data.toList.length - (k + 1))) by rw [hN2]; simp)
          clear hN2
          have hY2 := YieldAt.mono (R' := fun e W' => ∃ ok : Bool, e = .returned (.bool ok) ∧ (ok = true → J (pre2 ++ [8 * k + Lib.trailingZeros8 bb.toNat]) W' ∧ KeepB [(Bs, 9, .string s)] wr W') ∧ (ok = false → Jx (pre2 ++ [8 * k + Lib.trailingZeros8 bb.toNat]) W')) hY1 (by
            rintro e W' (⟨rfl, h1, h2⟩ | ⟨rfl, h1⟩)
            · exact ⟨true, rfl, (fun _ => ⟨h1, h2⟩), (fun h => by cases h)⟩
            · exact ⟨false, rfl, (fun h => by cases h), fun _ => h1⟩)
          obtain ⟨fn, tmps, assign, body, hy, hR⟩ := hY2
          simp only [encs1, Int.natCast_add, Int.natCast_mul, Int.cast_ofNat_Int] at hy
          have HR := Lib.hid hR
          clear hY1 hR
          have hdn : 1 ≤ n - 1 := by omega
          have hdn1 : 1 ≤ n := by omega
          have hz2 : ((bb.toNat : Int) != 0) = true := by rw [bne, u8_ne hz]; rfl
          have h1b : 1 ≤ bb.toNat := by
            rcases Nat.eq_zero_or_pos bb.toNat with h | h
            · exact absurd (UInt8.toNat_inj.1 (by simpa using h)) hz
            · exact h
          have hbl := bb.toNat_lt
          have hbits : bits .and .u8 (bb.toNat : Int) ((bb.toNat : Int) - 1) = ((band bb (bb - 1)).toNat : Int) := by rw [← u8_sub_one bb hz, bits_and]
          have hlt2 := band_lt bb hz
          generalize band bb (bb - 1) = bn at hbits hlt2 HN3
          gi_wp2_with (first
            | (refine ⟨trivial, ?_⟩; gi_at_call 137; refine (callsIn_wide.2 (tz8 _ _)).mono ?_; rintro e w' ⟨rfl, rfl⟩)
            | (refine HR.out.mono ?_; rintro e W' ⟨ok, rfl, hb1, hb2⟩))
          · have hok : ok = false := by
              have h : (!ok) = true := by assumption
              simpa using h
            refine bodyPost_ret (results_none rfl _ _ _) rfl ?_
            exact ⟨⟨_, rfl⟩, .inr ⟨_, ⟨_, HN3.out.symm⟩, hb2 hok⟩⟩
          · have hok : ok = true := by
              have h : (!ok) = false := by assumption
              simpa using h
            obtain ⟨hx, hkb⟩ := hb1 hok
            go_roundw
            case rel => exact ⟨bn, _, rfl, hkb (Bs, 9, .string s) (by simp) hbs2, HN3.out, hx⟩
            case measure => simp [intOf]; omega
    · have hkk : k = max s.size (f / 8) ∨ True := .inr trivial
      rw [restN, if_neg (by simpa using hlt), List.append_nil] at hN
      have HN := Lib.hid hN
      clear hN hkk
      gi_wp2
      go_end0
      exact ⟨⟨_, rfl⟩, .inl ⟨_, rfl, by rw [HN.out]; exact hj⟩⟩
/-- THE ITERATOR'S CONTRACT: the numbers from one on, rising. -/
theorem numbers_stops (n : Nat) (hn : 2 ≤ n) (Bf Bs : Nat) (s : ByteArray) (f : Nat) (hs : s.size ≤ 140737488355328) (hf : f ≤ 9223372036854775807) (w : World)
    (hBf : Boxed w Bf 3 (.int .i64 f)) (hBs : Boxed w Bs 9 (.string s)) :
    SeqStopsK Fence.wide n Tryz.prog 136 #[.pointer (some ⟨Bf, 0, none⟩), .pointer (some ⟨Bs, 0, none⟩)] encs1 (KeepB [(Bs, 9, .string s)])
      (fun ys => ys = nums s.data.toList f) (fun pre => pre <+: nums s.data.toList f) (nums s.data.toList f).length w := fun l J Jx W hW _ _ hY h0 =>
  numbers1_in n hn l Bf Bs s f hs hf J Jx hY W ((hW.block Bf hBf.lt).trans hBf) ((hW.block Bs hBs.lt).trans hBs) h0

/-- numbers(s, from): s and the first number are boxed; the function value captures the boxes. -/
theorem numbers_in (n : Nat) (s : ByteArray) (f : Int) (w : World) :
    CallsIn Fence.wide n Tryz.prog 126 #[.string s, .int .i64 f] w fun e w' => e = .returned (.func (.func 136) #[] #[.pointer (some ⟨w.heap.size + 1, 0, none⟩), .pointer (some ⟨w.heap.size, 0, none⟩)]) ∧ w' = (w.alloc (.cells #[.string s] 9)).alloc (.cells #[.int .i64 (max f 0)] 3) := by
  refine callsIn_of_wp Tryz.func126 rfl trivial ?_ rfl
  simp only [Tryz.ntmps126, List.size_toArray, List.length_cons, List.length_nil, Nat.reduceAdd, Nat.reduceSub, Array.replicate_succ, Array.replicate_zero, List.push_toArray, List.append_toArray, List.nil_append, List.cons_append]
  gi_wp2
  go_ret
  exact ⟨rfl, rfl⟩
end Go.Proofs.YtmloljjllmmkoaaGreat

namespace Go.Proofs.YtmloljjllmmkoaaGreat
open Go.RowKit Go.Shelf Go SM
attribute [local go_sem] Oper.semAt_some

theorem info3 : (Tryz.prog.info? 3).map (fun i => (i.zero, i.size, i.bytes)) = some (some (.int .i64 0), 1, 8) := by kernel_rfl
def ints (l : List Nat) : List Value := l.map fun n : Nat => Value.int .i64 n

end Go.Proofs.YtmloljjllmmkoaaGreat

namespace Go.Proofs.YtmloljjllmmkoaaGreat
open Go.RowKit Go.Shelf Go SM
attribute [local go_sem] Oper.semAt_some

theorem boxed_put {W : World} {B : Nat} {t : TypeId} {v : Value} (h : Boxed W B t v) {D : Nat} {o : Obj} (o' : Obj) (hK : W.heap[D]? = some o) (hc : o.isCells = false) : Boxed (W.putObj D o') B t v :=
  KeepB.put (l := [(B, t, v)]) W D o o' hK hc (B, t, v) (by simp) h
theorem boxed_ownFrom {β : Type} (n B : Nat) (t : TypeId) (f : β → Value) : OwnFrom n (fun s W => Boxed W B t (f s)) := Own.from (boxed_own _ _ _) _

/-- what Next answers -/
def nextV (l : List UInt8) (from_ : Int) : Value :=
  match (nums l from_.toNat).head? with
  | some x => .tuple #[.int .i64 x, .bool true]
  | none => .tuple #[.int .i64 0, .bool false]

set_option maxRecDepth 100000 in
set_option maxHeartbeats 2000000 in
theorem next_in (n : Nat) (hn : 6 ≤ n) (s : ByteArray) (f : Int) (hs : s.size ≤ 140737488355328) (hl : -9223372036854775808 ≤ f) (hf : f ≤ 9223372036854775807) (w : World) :
    CallsIn Fence.wide n Tryz.prog 104 #[.string s, .int .i64 f] w fun e w' => e = .returned (nextV s.data.toList f) ∧ Below w.heap.size w w' := by
  have h1 : 1 ≤ n := by omega
  have hro : Fence.wide.round = none := rfl
  refine callsIn_of_wp_marks Tryz.func104 rfl trivial ?_ hro
  simp only [Tryz.ntmps104, List.size_toArray, List.length_cons, List.length_nil, Nat.reduceAdd, Nat.reduceSub, Array.replicate_succ, Array.replicate_zero, List.push_toArray, List.append_toArray, List.nil_append, List.cons_append]
  gi_wp2_with (refine ⟨trivial, ?_⟩; gi_at_call 126; refine (numbers_in _ _ _ _).mono ?_; rintro e w' ⟨rfl, rfl⟩)
  have hm : max f 0 = ((f.toNat : Nat) : Int) := by omega
  rw [hm]
  clear hm
  have bR := Boxed.new w 3 (.int .i64 0)
  have bK := Boxed.new (w.alloc (.cells #[.int .i64 0] 3)) 4 (.bool false)
  have bS := Boxed.new ((w.alloc (.cells #[.int .i64 0] 3)).alloc (.cells #[.bool false] 4)) 9 (.string s)
  have bF := Boxed.new (((w.alloc (.cells #[.int .i64 0] 3)).alloc (.cells #[.bool false] 4)).alloc (.cells #[.string s] 9)) 3 (.int .i64 (f.toNat : Nat))
  simp only [World.size_alloc] at bK bS bF
  have hB0 : Below w.heap.size w ((((w.alloc (.cells #[.int .i64 0] 3)).alloc (.cells #[.bool false] 4)).alloc (.cells #[.string s] 9)).alloc (.cells #[.int .i64 (f.toNat : Nat)] 3)) := ((((Below.refl _ w).alloc (Nat.le_refl _) _).alloc (by simp) _).alloc (by simp; omega) _).alloc (by simp; omega) _
  refine wpIn_rangeFunc_ownG hro h1 (gf := 136) (lb := #[.pointer (some ⟨w.heap.size + 1 + 1 + 1, 0, none⟩), .pointer (some ⟨w.heap.size + 1 + 1, 0, none⟩)]) rfl trivial (enters_of Tryz.func136 (by kernel_rfl) rfl)
    (numbers_stops (n - 1) (by omega) (w.heap.size + 1 + 1 + 1) (w.heap.size + 1 + 1) s f.toNat (by omega) (by omega) _ bF (bS.alloc _)) KeepB.trans (fun W l o o' _ h1 h2 _ => KeepB.put W l o o' h1 h2) (Below.refl _ _) (fun _ => rfl)
    (fun pre W => pre = [] ∧ Boxed W w.heap.size 3 (.int .i64 0) ∧ Boxed W (w.heap.size + 1) 4 (.bool false) ∧ Below w.heap.size w W)
    (fun c pre W => c = .ret ∧ ∃ x : Nat, pre = [x] ∧ Boxed W w.heap.size 3 (.int .i64 x) ∧ Boxed W (w.heap.size + 1) 4 (.bool true) ∧ Below w.heap.size w W)
    (OwnFrom.and (ownFrom_pure _ _) (OwnFrom.and (Own.from (boxed_own _ _ _) _) (OwnFrom.and (Own.from (boxed_own _ _ _) _) (ownFrom_below (Nat.le_refl _) (by simp; omega)))))
    (fun c pre A B row hs hg hr => by
      obtain ⟨hc, x, hx, h1, h2, h3⟩ := hs
      exact ⟨hc, x, hx, boxed_ownFrom _ _ _ (fun _ : Unit => _) () A B row h1 hg hr, boxed_ownFrom _ _ _ (fun _ : Unit => _) () A B row h2 hg hr, ownFrom_below (β := Unit) (Nat.le_refl _) (by simp; omega) () A B row h3 hg hr⟩)
    ⟨rfl, ((bR.alloc _).alloc _).alloc _, (bK.alloc _).alloc _, hB0⟩
    (fun x => { tmps := #[.string s, .int .i64 f, undef, undef, .pointer (some ⟨w.heap.size, 0, none⟩), .pointer (some ⟨w.heap.size + 1, 0, none⟩), .int .i64 x, .string s, .int .i64 f, .func (.func 136) #[] #[.pointer (some ⟨w.heap.size + 1 + 1 + 1, 0, none⟩), .pointer (some ⟨w.heap.size + 1 + 1, 0, none⟩)], .int .i64 x, undef], defers := [] }) ?assign ?body ?done ?stop
  case assign =>
    intro l x W K hK
    gi_wp2
    exact hK
  case body =>
    rintro l pre x W ⟨rfl, hr, hk, hB⟩ hlt
    have hc1 := hr.cell
    have hc2 := hk.cell
    have hf1 := hr.frozen
    have hf2 := hk.frozen
    gi_wp2
    exact ⟨((KeepsOthers.setCell _ _ _).trans (KeepsOthers.setCell _ _ _)).from _, rfl, x, rfl, (hr.set _).other (by omega) _, (hk.other (by omega) _).set _,
      hB.trans (((Below.refl _ W).setCell (p := ⟨w.heap.size, 0, none⟩) (Nat.le_refl _) _).setCell (p := ⟨w.heap.size + 1, 0, none⟩) (by simp) _)⟩
  case done =>
    rintro D ys W hD rfl ⟨hnil, hr, hk, hB⟩ hK
    have hc1 := hr.cell
    have hc2 := hk.cell
    have hf1 := hr.frozen
    have hf2 := hk.frozen
    have HN := Lib.hid hnil
    clear hnil
    gi_wp2
    have hK' := ((KeepsOthers.setCell W ⟨w.heap.size, 0, none⟩ (.int .i64 0)).trans (KeepsOthers.setCell _ ⟨w.heap.size + 1, 0, none⟩ (.bool false))).same D _ hK rfl
    have c1 := (boxed_put ((hr.set (.int .i64 0)).other (B' := w.heap.size + 1) (by omega) (.bool false)) (.deferred none) hK' rfl).cell
    have c2 := (boxed_put ((hk.other (B' := w.heap.size) (by omega) (.int .i64 0)).set (.bool false)) (.deferred none) hK' rfl).cell
    refine ⟨by simp, .inl ⟨_, _, rfl, run_takeDeferred hK', ?_⟩⟩
    refine ⟨.tuple #[.int .i64 0, .bool false], by simp [results, Tryz.f104, go_sem, c1, c2], by simp [nextV, HN.out], ?_⟩
    exact hB.trans ((((Below.refl _ W).setCell (p := ⟨w.heap.size, 0, none⟩) (Nat.le_refl _) _).setCell (p := ⟨w.heap.size + 1, 0, none⟩) (by simp) _).trans (belowK_b (w := w) (Nat.le_refl _) _ D _ _ (by simp at hD; omega) hK' rfl rfl))
  case stop =>
    rintro D c pre W hD hSp ⟨rfl, x, rfl, hr, hk, hB⟩ hK
    have HS := Lib.hid hSp
    clear hSp
    gi_wp2
    have c1 := (boxed_put hr (.deferred none) hK rfl).cell
    have c2 := (boxed_put hk (.deferred none) hK rfl).cell
    obtain ⟨rest, hrest⟩ := HS.out
    refine ⟨by simp, .inl ⟨_, _, rfl, run_takeDeferred hK, ?_⟩⟩
    refine ⟨.tuple #[.int .i64 x, .bool true], by simp [results, Tryz.f104, go_sem, c1, c2], by simp [nextV, ← hrest], ?_⟩
    exact hB.trans (belowK_b (w := w) (Nat.le_refl _) _ D _ _ (by simp at hD; omega) hK rfl rfl)

theorem next_any (s : ByteArray) (f : Int) (hs : s.size ≤ 140737488355328) (hl : -9223372036854775808 ≤ f) (hf : f ≤ 9223372036854775807) (w : World) :
    Calls Tryz.prog 104 #[.string s, .int .i64 f] w fun e w' => e = .returned (nextV s.data.toList f) ∧ Below w.heap.size w w' :=
  callsIn_wide.1 (next_in 6 (by omega) s f hs hl hf w)
end Go.Proofs.YtmloljjllmmkoaaGreat

namespace Go.Proofs.YtmloljjllmmkoaaGreat
open Go.RowKit Go.Shelf Go SM
attribute [local go_sem] Oper.semAt_some

/-- where the run of numbers that begins at g ends -/
def run : List Nat → Nat → Nat
  | [], g => g
  | x :: l, g => if x = g then run l (g + 1) else g
theorem run_ge : ∀ (l : List Nat) (g : Nat), g ≤ run l g
  | [], g => Nat.le_refl _
  | x :: l, g => by
    unfold run
    split
    · have := run_ge l (g + 1); omega
    · exact Nat.le_refl _
theorem run_range : ∀ (m g : Nat) (r : List Nat), run (List.range' g m ++ r) g = run r (g + m)
  | 0, g, r => by simp
  | m + 1, g, r => by
    rw [List.range'_succ, List.cons_append, run, if_pos rfl, run_range m (g + 1) r]
    congr 1; omega
theorem range'_snoc (g m : Nat) : List.range' g (m + 1) = List.range' g m ++ [g + m] := by
  rw [List.range'_concat]; simp

/-- what Gap answers -/
def gapV (l : List UInt8) (from_ e : Int) : Value :=
  if e ≤ (run (nums l from_.toNat) from_.toNat : Nat) then .tuple #[.int .i64 0, .bool false] else .tuple #[.int .i64 (run (nums l from_.toNat) from_.toNat : Nat), .bool true]

theorem gapV_no {l : List UInt8} {f e : Int} {k : Nat} (hk : f.toNat = k) (h : e ≤ (run (nums l k) k : Nat)) : gapV l f e = .tuple #[.int .i64 0, .bool false] := by
  unfold gapV; rw [hk, if_pos h]
theorem gapV_yes {l : List UInt8} {f e : Int} {k g : Nat} (hk : f.toNat = k) (hg : run (nums l k) k = g) (h : ¬ e ≤ (g : Int)) : gapV l f e = .tuple #[.int .i64 g, .bool true] := by
  unfold gapV; rw [hk, hg, if_neg h]
def gapI (w : World) (e : Int) (k : Nat) (pre : List Nat) (W : World) : Prop :=
  ∃ g : Nat, g = k + pre.length ∧ pre = List.range' k pre.length ∧ (g : Int) ≤ 9223372036854775807 ∧ Boxed W w.heap.size 3 (.int .i64 e) ∧ Boxed W (w.heap.size + 1) 3 (.int .i64 g) ∧ Below w.heap.size w W
def gapX (w : World) (e : Int) (k : Nat) (c : Code) (pre : List Nat) (W : World) : Prop :=
  c = .exit 0 ∧ ∃ (m g x : Nat), g = k + m ∧ pre = List.range' k m ++ [x] ∧ (x ≠ g ∨ e ≤ g) ∧ Boxed W w.heap.size 3 (.int .i64 e) ∧ Boxed W (w.heap.size + 1) 3 (.int .i64 g) ∧ Below w.heap.size w W

end Go.Proofs.YtmloljjllmmkoaaGreat

namespace Go.Proofs.YtmloljjllmmkoaaGreat
open Go.ChangeShapes Go.WideShapes Go.ChangeAt Go.RowKit Go SM
theorem IntsAt.split {W : World} {v : Value} {zs : List Int} (h : IntsAt W v zs) : ∃ a cap, v = .slice a zs.length cap ∧ (zs ≠ [] → ∃ b off, a = some ⟨b, off, none⟩ ∧ b < W.heap.size ∧ ∀ j (h : j < zs.length), W.cell? ⟨b, off + j, none⟩ = some (.int .i64 zs[j])) := by
  rcases h with ⟨rfl, rfl⟩ | ⟨b, off, cap, rfl, hb, hc⟩
  · exact ⟨none, 0, rfl, fun h => absurd rfl h⟩
  · exact ⟨_, cap, rfl, fun _ => ⟨b, off, rfl, hb, hc⟩⟩
theorem IntsAt.later {W W' : World} {v : Value} {zs : List Int} (h : IntsAt W v zs) (hB : Below W.heap.size W W') : IntsAt W' v zs := by
  rcases h with h | ⟨b, off, cap, h1, hb, hc⟩
  · exact .inl h
  · exact .inr ⟨b, off, cap, h1, Nat.lt_of_lt_of_le hb hB.size, fun j hj => (hB.cell (p := ⟨b, off + j, none⟩) hb).trans (hc j hj)⟩

def toInts (l : List Nat) : List Int := l.map fun n : Nat => (n : Int)
theorem intsAt_of_owns {W : World} {base : Nat} {v : Value} {l : List Nat} (h : W.ownsRow base 3 1 v l.length (ints l)) : IntsAt W v (toInts l) := by
  by_cases hv : v = .slice none 0 0
  · rcases h.2 with ⟨_, h0⟩ | ⟨g, cap, cur, e, _⟩
    · exact .inl ⟨hv, by rw [List.eq_nil_of_length_eq_zero h0]; rfl⟩
    · rw [hv] at e; cases e
  · obtain ⟨g, cap, rfl, _, hg, _, _, hc⟩ := row_cells h hv
    refine .inr ⟨g, 0, cap, by simp [toInts], hg, fun j hj => ?_⟩
    have hj' : j < l.length := by simpa [toInts] using hj
    rw [Nat.zero_add, hc j (.int .i64 l[j]) (by simp [ints, hj'])]
    simp [toInts]
theorem toInts_inj {a b : List Nat} : toInts a = toInts b ↔ a = b := by
  constructor
  · intro h
    have := congrArg (List.map Int.toNat) h
    simpa [toInts, List.map_map, Function.comp_def] using this
  · rintro rfl; rfl
theorem length_toInts (l : List Nat) : (toInts l).length = l.length := by simp [toInts]

/-! ### Strings in a law -/
def bs (l : List UInt8) : ByteArray := ⟨l.toArray⟩
theorem str_bs (l : List UInt8) : str l = .string (bs l) := rfl
theorem bs_list (l : List UInt8) : (bs l).data.toList = l := by simp [bs]
theorem bs_size (l : List UInt8) : (bs l).size = l.length := by simp [bs, ByteArray.size]
theorem bs_inj {a b : List UInt8} : bs a = bs b ↔ a = b := by
  constructor
  · intro h
    rw [← bs_list a, h, bs_list]
  · rintro rfl; rfl
/-! ### What two texts make, as texts -/
def andB (a b : ByteArray) : ByteArray := bs (mk band a.data.toList b.data.toList)
def orB (a b : ByteArray) : ByteArray := bs (mk bor a.data.toList b.data.toList)
def subB (a b : ByteArray) : ByteArray := bs (mk bsub a.data.toList b.data.toList)
def cntB (a : ByteArray) : Nat := cnt a.data.toList
theorem size_mk (f : UInt8 → UInt8 → UInt8) (a b : ByteArray) : (bs (mk f a.data.toList b.data.toList)).size ≤ max a.size b.size := by
  rw [bs_size]; have := mk_length f a.data.toList b.data.toList; simpa using this
theorem size_andB (a b : ByteArray) : (andB a b).size ≤ max a.size b.size := size_mk _ _ _
theorem size_orB (a b : ByteArray) : (orB a b).size ≤ max a.size b.size := size_mk _ _ _
theorem size_subB (a b : ByteArray) : (subB a b).size ≤ max a.size b.size := size_mk _ _ _
theorem cntB_le (a : ByteArray) : cntB a ≤ 8 * a.size := by have := cnt_le a.data.toList; simpa [cntB] using this
theorem list_andB (a b : ByteArray) : (andB a b).data.toList = mk band a.data.toList b.data.toList := bs_list _
theorem list_orB (a b : ByteArray) : (orB a b).data.toList = mk bor a.data.toList b.data.toList := bs_list _
theorem list_subB (a b : ByteArray) : (subB a b).data.toList = mk bsub a.data.toList b.data.toList := bs_list _
theorem cnt_b (a : ByteArray) (w : World) (ha : a.size ≤ 140737488355328) :
    Calls Tryz.prog 70 #[.string a] w fun e w' => e = .returned (.int .i64 (cntB a)) ∧ w = w' := count_any a w ha
theorem nextV_form (l : List UInt8) (f : Int) : ∃ (a : Int) (b : Bool), nextV l f = .tuple #[.int .i64 a, .bool b] := by
  unfold nextV; split
  · exact ⟨_, _, rfl⟩
  · exact ⟨_, _, rfl⟩
end Go.Proofs.YtmloljjllmmkoaaGreat

namespace Go.Proofs.YtmloljjllmmkoaaGreat.PL
open SM

def upd {α : Type} (f : Nat → α) (j : Nat) (v : α) : Nat → α := fun i => if i = j then v else f i
theorem upd_self {α : Type} (f : Nat → α) (j : Nat) (v : α) : upd f j v j = v := if_pos rfl
theorem upd_ne {α : Type} {f : Nat → α} {i j : Nat} {v : α} (h : i ≠ j) : upd f j v i = f i := if_neg h

def Fits (n : Nat) (l : List UInt8) : Prop := ∀ m, bit l m = true → 1 ≤ m ∧ m < n
def fitsB (n : Nat) (l : List UInt8) : Bool := (nums l n).head?.isNone && !bit l 0
theorem fits_iff {n : Nat} {l : List UInt8} : fitsB n l = true ↔ Fits n l := by
  unfold fitsB Fits
  constructor
  · intro h m hm
    simp only [Bool.and_eq_true, Bool.not_eq_true'] at h
    obtain ⟨h1, h2⟩ := h
    refine ⟨?_, ?_⟩
    · rcases Nat.eq_zero_or_pos m with rfl | h
      · rw [h2] at hm; cases hm
      · exact h
    · rcases Nat.lt_or_ge m n with h | h
      · exact h
      · have hm2 : m ∈ nums l n := mem_nums.2 ⟨h, hm⟩
        cases hn : nums l n with
        | nil => rw [hn] at hm2; cases hm2
        | cons x r => rw [hn] at h1; cases h1
  · intro h
    simp only [Bool.and_eq_true, Bool.not_eq_true']
    refine ⟨?_, ?_⟩
    · cases hn : nums l n with
      | nil => rfl
      | cons x r =>
        have hx : x ∈ nums l n := by rw [hn]; exact List.mem_cons_self ..
        have := mem_nums.1 hx
        have := h x this.2
        omega
    · cases hb : bit l 0 with
      | false => rfl
      | true => have := h 0 hb; omega
theorem bit_least (l : List UInt8) (m : Nat) : bit (least l) m = bit l m := by unfold bit; rw [gd_least]
theorem bit_nil (m : Nat) : bit [] m = false := by simp [bit, gd_nil]
theorem fits_nil (n : Nat) : Fits n [] := fun m h => by rw [bit_nil] at h; cases h
theorem fits_least {n : Nat} {l : List UInt8} (h : Fits n l) : Fits n (least l) := fun m hm => h m (by rwa [bit_least] at hm)
theorem eq_of_bits {a b : List UInt8} (ha : least a = a) (hb : least b = b) (h : ∀ m, bit a m = bit b m) : a = b := by
  rw [← ha, ← hb]
  exact least_ext (bit_ext h)
theorem bit_mk_or (a b : List UInt8) (m : Nat) : bit (mk bor a b) m = (bit a m || bit b m) := by
  unfold bit; rw [gd_mk _ (by decide), tb_bor]
theorem bit_mk_and (a b : List UInt8) (m : Nat) : bit (mk band a b) m = (bit a m && bit b m) := by
  unfold bit; rw [gd_mk _ (by decide), tb_band]
theorem bit_mk_sub (a b : List UInt8) (m : Nat) : bit (mk bsub a b) m = (bit a m && !bit b m) := by
  unfold bit; rw [gd_mk _ (by decide), tb_bsub _ _ _ (Nat.mod_lt _ (by decide))]
/-- a least list that fits is short -/
theorem length_fits {n : Nat} {l : List UInt8} (h : least l = l) (hf : Fits n l) : 8 * l.length ≤ n + 7 := by
  rcases Nat.eq_zero_or_pos l.length with e | e
  · omega
  · have hn : least l ≠ [] := by rw [h]; intro e'; rw [e'] at e; simp at e
    have hg := least_last l hn
    rw [h] at hg
    by_cases hall : ∀ k, k < 8 → (gd l (l.length - 1)).toNat.testBit k = false
    · exact absurd (u8_ext (x := gd l (l.length - 1)) (y := 0) (fun k hk => by rw [hall k hk]; simp)) hg
    · have : ∃ k, k < 8 ∧ (gd l (l.length - 1)).toNat.testBit k = true := by
        refine Classical.byContradiction fun hne => hall fun k hk => ?_
        cases hb : (gd l (l.length - 1)).toNat.testBit k with
        | false => rfl
        | true => exact absurd ⟨k, hk, hb⟩ hne
      obtain ⟨k, hk, hb⟩ := this
      have := hf (8 * (l.length - 1) + k) (by
        unfold bit
        rw [show (8 * (l.length - 1) + k) / 8 = l.length - 1 by omega, show (8 * (l.length - 1) + k) % 8 = k by omega]
        exact hb)
      omega

/-! ### A map -/
structure Ok (n : Nat) (f : Nat → List UInt8) : Prop where
  lo : 8 ≤ n
  hi : n ≤ 4096
  fits : ∀ p, p < 8 → Fits n (f p)
  least : ∀ p, p < 8 → least (f p) = f p
theorem Ok.len {n : Nat} {f : Nat → List UInt8} (h : Ok n f) {p : Nat} (hp : p < 8) : (f p).length ≤ 512 := by
  have := length_fits (h.least p hp) (h.fits p hp)
  have := h.hi
  omega
theorem Ok.put {n : Nat} {f : Nat → List UInt8} (h : Ok n f) {l : List UInt8} (hl : Fits n l) (p : Nat) : Ok n (upd f p (SM.least l)) :=
  ⟨h.lo, h.hi, fun q hq => by
    by_cases e : q = p
    · subst e; rw [upd_self]; exact fits_least hl
    · rw [upd_ne e]; exact h.fits q hq, fun q hq => by
    by_cases e : q = p
    · subst e; rw [upd_self]; exact least_least _
    · rw [upd_ne e]; exact h.least q hq⟩
theorem Ok.copy {n : Nat} {f : Nat → List UInt8} (h : Ok n f) {q : Nat} (hq : q < 8) (p : Nat) : Ok n (upd f p (f q)) := by
  have := h.put (h.fits q hq) p
  rwa [h.least q hq] at this
theorem ok_new {n : Nat} (h1 : 8 ≤ n) (h2 : n ≤ 4096) : Ok n (fun _ => []) := ⟨h1, h2, fun _ _ => fits_nil n, fun _ _ => rfl⟩
theorem Ok.used {n : Nat} {f g : Nat → List UInt8} (h : Ok n f) (hg : ∀ p, p < 8 → g p = f p) : Ok n g :=
  ⟨h.lo, h.hi, fun p hp => by rw [hg p hp]; exact h.fits p hp, fun p hp => by rw [hg p hp]; exact h.least p hp⟩

/-! ### A byte of a map's text -/
def bitB (p : Nat) : UInt8 := UInt8.ofNat (2 ^ p % 256)
theorem tb_bitB {p k : Nat} (hp : p < 8) (hk : k < 8) : (bitB p).toNat.testBit k = decide (p = k) := pow_tb ⟨p, hp⟩ ⟨k, hk⟩
def byteN (g : Nat → Bool) (k : Nat) : UInt8 := (List.range k).foldl (fun x p => if g p then bor x (bitB p) else x) 0
theorem byteN_succ (g : Nat → Bool) (k : Nat) : byteN g (k + 1) = if g k then bor (byteN g k) (bitB k) else byteN g k := by
  simp [byteN, List.range_succ]
theorem tb_byteN (g : Nat → Bool) : ∀ (k : Nat), k ≤ 8 → ∀ j, j < 8 → (byteN g k).toNat.testBit j = (decide (j < k) && g j)
  | 0, _, j, _ => by simp [byteN]
  | k + 1, hk, j, hj => by
    have ih := tb_byteN g k (by omega) j hj
    rw [byteN_succ]
    by_cases hg : g k = true
    · rw [if_pos hg, tb_bor, ih, tb_bitB (by omega) hj]
      by_cases e : k = j
      · subst e; simp [hg]
      · have h1 : (j < k + 1) ↔ (j < k) := by omega
        simp [e, h1]
    · rw [if_neg hg, ih]
      have hg' : g k = false := by simpa using hg
      by_cases e : j = k
      · subst e; simp [hg']
      · have h1 : (j < k + 1) ↔ (j < k) := by omega
        simp [h1]
theorem tb_byte (g : Nat → Bool) (j : Nat) (hj : j < 8) : (byteN g 8).toNat.testBit j = g j := by
  rw [tb_byteN g 8 (Nat.le_refl _) j hj]; simp [hj]
theorem byteN_zero {g : Nat → Bool} : byteN g 8 = 0 ↔ ∀ p, p < 8 → g p = false := by
  constructor
  · intro h p hp
    rw [← tb_byte g p hp, h]; simp
  · intro h
    exact u8_ext fun k hk => by rw [tb_byte g k hk, h k hk]; simp
/-! ### A map's text -/
def textN (n : Nat) (f : Nat → List UInt8) (k : Nat) : List UInt8 := (List.range n).map fun i => byteN (fun p => bit (f p) i) k
def textL (n : Nat) (f : Nat → List UInt8) : List UInt8 := textN n f 8
theorem length_textN (n : Nat) (f : Nat → List UInt8) (k : Nat) : (textN n f k).length = n := by simp [textN]
theorem length_textL (n : Nat) (f : Nat → List UInt8) : (textL n f).length = n := length_textN n f 8
theorem gd_textN {n i : Nat} (f : Nat → List UInt8) (k : Nat) (h : i < n) : gd (textN n f k) i = byteN (fun p => bit (f p) i) k := by
  simp [gd, textN, h]
theorem gd_textL {n i : Nat} (f : Nat → List UInt8) (h : i < n) : gd (textL n f) i = byteN (fun p => bit (f p) i) 8 := gd_textN f 8 h
theorem textN_zero (n : Nat) (f : Nat → List UInt8) : textN n f 0 = List.replicate n 0 := by
  apply List.ext_getElem <;> simp [textN, byteN]
theorem list_ext {a b : List UInt8} (hl : a.length = b.length) (h : ∀ i, i < a.length → gd a i = gd b i) : a = b := by
  refine List.ext_getElem hl fun i h1 h2 => ?_
  have := h i h1
  rwa [gd_lt h1, gd_lt h2] at this
def orAt (p : Nat) (L : List UInt8) (zs : List Nat) : List UInt8 := zs.foldl (fun L z => L.set z (bor (gd L z) (bitB p))) L
theorem length_orAt (p : Nat) : ∀ (zs : List Nat) (L : List UInt8), (orAt p L zs).length = L.length
  | [], _ => rfl
  | z :: zs, L => by
    show (orAt p (L.set z _) zs).length = _
    rw [length_orAt p zs]; simp
theorem bor_twice (x y : UInt8) : bor (bor x y) y = bor x y := u8_ext fun k _ => by rw [tb_bor, tb_bor, Bool.or_assoc, Bool.or_self]
theorem gd_orAt (p i : Nat) : ∀ (zs : List Nat) (L : List UInt8), (∀ z ∈ zs, z < L.length) → gd (orAt p L zs) i = if i ∈ zs then bor (gd L i) (bitB p) else gd L i
  | [], _, _ => by simp [orAt]
  | z :: zs, L, h => by
    show gd (orAt p (L.set z _) zs) i = _
    have hz := h z (List.mem_cons_self ..)
    rw [gd_orAt p i zs _ (fun y hy => by simpa using h y (List.mem_cons_of_mem _ hy)), gd_set _ _ _ hz]
    by_cases e : z = i
    · subst e
      rw [if_pos rfl, if_pos (List.mem_cons_self ..)]
      split
      · exact bor_twice _ _
      · rfl
    · rw [if_neg e]
      have e' : ¬ i = z := fun h => e h.symm
      have : (i ∈ z :: zs) ↔ i ∈ zs := by simp [List.mem_cons, e']
      simp only [this]
theorem orAt_plane {n p : Nat} (f : Nat → List UInt8) (hf : Fits n (f p)) : orAt p (textN n f p) (nums (f p) 0) = textN n f (p + 1) := by
  refine list_ext (by rw [length_orAt, length_textN, length_textN]) fun i hi => ?_
  rw [length_orAt, length_textN] at hi
  rw [gd_orAt p i _ _ (fun z hz => by rw [length_textN]; exact (hf z (mem_nums.1 hz).2).2), gd_textN f p hi, gd_textN f (p + 1) hi, byteN_succ]
  simp only [mem_nums, Nat.zero_le, true_and]
theorem orAt_take (p : Nat) (L : List UInt8) (zs : List Nat) (k : Nat) (h : k < zs.length) : orAt p L (zs.take (k + 1)) = (orAt p L (zs.take k)).set zs[k] (bor (gd (orAt p L (zs.take k)) zs[k]) (bitB p)) := by
  unfold orAt
  rw [List.take_succ_eq_append_getElem h, List.foldl_append]
  rfl
theorem textL_ext {n : Nat} {f g : Nat → List UInt8} (h : ∀ p, p < 8 → ∀ m, m < n → bit (f p) m = bit (g p) m) : textL n f = textL n g := by
  refine list_ext (by rw [length_textL, length_textL]) fun i hi => ?_
  rw [length_textL] at hi
  rw [gd_textL f hi, gd_textL g hi]
  exact u8_ext fun k hk => by rw [tb_byte _ k hk, tb_byte _ k hk, h k hk i hi]

/-! ### The planes of a text -/
def places (s : List UInt8) (p k : Nat) : List Nat := (List.range k).filter fun i => (gd s i).toNat.testBit p
theorem places_succ (s : List UInt8) (p k : Nat) : places s p (k + 1) = places s p k ++ (if (gd s k).toNat.testBit p then [k] else []) := by
  simp only [places, List.range_succ, List.filter_append, List.filter_cons, List.filter_nil]
theorem length_places (s : List UInt8) (p k : Nat) : (places s p k).length ≤ k := by
  have := List.length_filter_le (fun i => (gd s i).toNat.testBit p) (List.range k)
  simpa [places] using this
theorem mem_places {s : List UInt8} {p k m : Nat} : m ∈ places s p k ↔ m < k ∧ (gd s m).toNat.testBit p = true := by simp [places]
def intsN (l : List Nat) : List Int := l.map fun n : Nat => (n : Int)
theorem mem_intsN {l : List Nat} {m : Nat} : (m : Int) ∈ intsN l ↔ m ∈ l := by
  simp only [intsN, List.mem_map]
  constructor
  · rintro ⟨a, ha, e⟩
    obtain rfl : a = m := by omega
    exact ha
  · intro h; exact ⟨m, h, rfl⟩
theorem okI_nats {l : List Nat} (h : ∀ m ∈ l, m ≤ 65535) : okI (intsN l) = true := by
  unfold okI
  rw [List.all_eq_true]
  intro z hz
  simp only [intsN, List.mem_map] at hz
  obtain ⟨a, ha, rfl⟩ := hz
  have := h a ha
  simp; omega
def planeOf (s : List UInt8) (p : Nat) : List UInt8 := ofL (intsN (places s p s.length))
theorem okI_places {s : List UInt8} {p k : Nat} (h : k ≤ 65535) : okI (intsN (places s p k)) = true := okI_nats fun m hm => by have := (mem_places.1 hm).1; omega
theorem bit_planeOf {s : List UInt8} {p : Nat} (h : s.length ≤ 65535) (m : Nat) : bit (planeOf s p) m = (gd s m).toNat.testBit p := by
  unfold planeOf
  rw [bit_ofL (okI_places h)]
  simp only [mem_intsN, mem_places]
  by_cases hm : m < s.length
  · simp [hm]
  · rw [gd_ge (by omega)]; simp [hm]
theorem least_planeOf {s : List UInt8} {p : Nat} (h : s.length ≤ 65535) : least (planeOf s p) = planeOf s p := least_ofL (okI_places h)
theorem fits_planeOf {s : List UInt8} {p : Nat} (h : s.length ≤ 65535) : Fits s.length (planeOf s p) ↔ (gd s 0).toNat.testBit p = false := by
  unfold Fits
  simp only [bit_planeOf h]
  constructor
  · intro hf
    cases hb : (gd s 0).toNat.testBit p with
    | false => rfl
    | true => have := hf 0 hb; omega
  · intro h0 m hm
    refine ⟨?_, ?_⟩
    · rcases Nat.eq_zero_or_pos m with rfl | h
      · rw [h0] at hm; cases hm
      · exact h
    · rcases Nat.lt_or_ge m s.length with h | h
      · exact h
      · rw [gd_ge h] at hm; simp at hm
theorem planeOf_text {n : Nat} {f : Nat → List UInt8} (h : Ok n f) {p : Nat} (hp : p < 8) : planeOf (textL n f) p = f p := by
  have hn : (textL n f).length ≤ 65535 := by rw [length_textL]; have := h.hi; omega
  refine eq_of_bits (least_planeOf hn) (h.least p hp) fun m => ?_
  rw [bit_planeOf hn]
  by_cases hm : m < n
  · rw [gd_textL f hm, tb_byte _ p hp]
  · rw [gd_ge (by rw [length_textL]; omega)]
    cases hb : bit (f p) m with
    | false => simp
    | true => have := h.fits p hp m hb; omega
theorem text_planeOf {s : List UInt8} (h : s.length ≤ 65535) : textL s.length (planeOf s) = s := by
  refine list_ext (length_textL _ _) fun i hi => ?_
  rw [length_textL] at hi
  rw [gd_textL _ hi]
  exact u8_ext fun k hk => by rw [tb_byte _ k hk, bit_planeOf h]
theorem ok_planeOf {s : List UInt8} (h1 : 8 ≤ s.length) (h2 : s.length ≤ 4096) (h0 : gd s 0 = 0) : Ok s.length (planeOf s) :=
  ⟨h1, h2, fun p _ => (fits_planeOf (by omega)).2 (by rw [h0]; simp), fun p _ => least_planeOf (by omega)⟩
theorem text_head {n : Nat} {f : Nat → List UInt8} (h : Ok n f) : gd (textL n f) 0 = 0 := by
  rw [gd_textL f (by have := h.lo; omega), byteN_zero]
  intro p hp
  cases hb : bit (f p) 0 with
  | false => rfl
  | true => have := h.fits p hp 0 hb; omega

/-! ### Used, Free -/
def usedN (f : Nat → List UInt8) (k : Nat) : List UInt8 := (List.range k).foldl (fun u p => mk bor u (f p)) []
def used (f : Nat → List UInt8) : List UInt8 := usedN f 8
theorem usedN_succ (f : Nat → List UInt8) (k : Nat) : usedN f (k + 1) = mk bor (usedN f k) (f k) := by simp [usedN, List.range_succ]
theorem least_usedN (f : Nat → List UInt8) : ∀ k, least (usedN f k) = usedN f k
  | 0 => rfl
  | k + 1 => by rw [usedN_succ, mk_least]
theorem bit_usedN (f : Nat → List UInt8) (m : Nat) : ∀ k, bit (usedN f k) m = (List.range k).any fun p => bit (f p) m
  | 0 => by simp [usedN, bit_nil]
  | k + 1 => by rw [usedN_succ, bit_mk_or, bit_usedN f m k, List.range_succ, List.any_append]; simp
theorem bit_used (f : Nat → List UInt8) (m : Nat) : bit (used f) m = (List.range 8).any fun p => bit (f p) m := bit_usedN f m 8
theorem fits_usedN {n : Nat} {f : Nat → List UInt8} (h : Ok n f) {k : Nat} (hk : k ≤ 8) : Fits n (usedN f k) := fun m hm => by
  rw [bit_usedN, List.any_eq_true] at hm
  obtain ⟨p, hp, hb⟩ := hm
  exact h.fits p (by rw [List.mem_range] at hp; omega) m hb
theorem len_usedN {n : Nat} {f : Nat → List UInt8} (h : Ok n f) {k : Nat} (hk : k ≤ 8) : (usedN f k).length ≤ 512 := by
  have := length_fits (least_usedN f k) (fits_usedN h hk)
  have := h.hi
  omega
theorem nums_range {n : Nat} {l : List UInt8} (h : Fits n l) : nums l 0 = (List.range n).filter (bit l) := by
  refine sorted_ext _ _ (sorted_nums l 0) (List.Pairwise.filter _ List.pairwise_lt_range) fun m => ?_
  rw [mem_nums, List.mem_filter, List.mem_range]
  constructor
  · rintro ⟨_, hb⟩; exact ⟨(h m hb).2, hb⟩
  · rintro ⟨_, hb⟩; exact ⟨Nat.zero_le _, hb⟩
theorem cnt_range {n : Nat} {l : List UInt8} (h : Fits n l) : cnt l = ((List.range n).filter (bit l)).length := by
  rw [← length_nums_zero, nums_range h]
def freeK (f : Nat → List UInt8) (n k : Nat) : Nat := ((List.range k).filter fun b => decide (1 ≤ b) && (gd (textL n f) b == 0)).length
theorem freeK_succ (f : Nat → List UInt8) (n k : Nat) : freeK f n (k + 1) = freeK f n k + (if 1 ≤ k ∧ gd (textL n f) k = 0 then 1 else 0) := by
  simp only [freeK, List.range_succ, List.filter_append, List.length_append, List.filter_cons, List.filter_nil]
  by_cases h : 1 ≤ k ∧ gd (textL n f) k = 0
  · simp [h]
  · rw [if_neg h]
    by_cases h1 : 1 ≤ k
    · have h2 : gd (textL n f) k ≠ 0 := fun e => h ⟨h1, e⟩
      simp [h2]
    · simp [h1]
theorem freeK_le (f : Nat → List UInt8) (n k : Nat) : freeK f n k ≤ k := by
  have := List.length_filter_le (fun b => decide (1 ≤ b) && (gd (textL n f) b == 0)) (List.range k)
  simpa [freeK] using this
theorem filter_not (q : Nat → Bool) (l : List Nat) : (l.filter q).length + (l.filter fun x => !q x).length = l.length := by
  induction l with
  | nil => rfl
  | cons x l ih => simp only [List.filter_cons]; cases q x <;> simp <;> omega
theorem text_zero {n : Nat} {f : Nat → List UInt8} {b : Nat} (hb : b < n) : (gd (textL n f) b = 0) ↔ bit (used f) b = false := by
  rw [gd_textL f hb, byteN_zero, bit_used, List.any_eq_false]
  simp only [List.mem_range, Bool.not_eq_true]
theorem free_eq {n : Nat} {f : Nat → List UInt8} (h : Ok n f) : freeK f n n + cnt (used f) + 1 = n := by
  have hfit : Fits n (used f) := fits_usedN h (Nat.le_refl 8)
  have hlo := h.lo
  rw [cnt_range hfit]
  have e : ∀ b ∈ List.range n, (decide (1 ≤ b) && (gd (textL n f) b == 0)) = (decide (1 ≤ b) && !bit (used f) b) := by
    intro b hb
    rw [List.mem_range] at hb
    congr 1
    have := text_zero (f := f) hb
    cases hc : bit (used f) b with
    | false => rw [hc] at this; simpa using this
    | true => rw [hc] at this; simpa using this
  unfold freeK
  rw [List.filter_congr e]
  obtain ⟨k, rfl⟩ : ∃ k, n = k + 1 := ⟨n - 1, by omega⟩
  rw [List.range_succ_eq_map]
  have h0 : bit (used f) 0 = false := by
    cases hb : bit (used f) 0 with
    | false => rfl
    | true => have := hfit 0 hb; omega
  rw [List.filter_cons, List.filter_cons, h0]
  simp only [decide_false, Bool.false_and, Bool.false_eq_true, if_false, show ¬ (1 ≤ 0) by omega]
  have e2 : ∀ b ∈ (List.range k).map Nat.succ, (decide (1 ≤ b) && !bit (used f) b) = !bit (used f) b := by
    intro b hb
    simp only [List.mem_map] at hb
    obtain ⟨a, _, rfl⟩ := hb
    simp
  rw [List.filter_congr e2]
  have := filter_not (bit (used f)) ((List.range k).map Nat.succ)
  simp only [List.length_map, List.length_range] at this
  omega

/-! ### How the reference puts a plane -/
def putB (x : UInt8) (p : Nat) (c : Bool) : UInt8 := if c then bsub x (bitB p) + bitB p else bsub x (bitB p)
theorem add_bit_all : ∀ (x : Fin 256) (p : Fin 8), bsub (UInt8.ofNat x.val) (bitB p.val) + bitB p.val = bor (bsub (UInt8.ofNat x.val) (bitB p.val)) (bitB p.val) ∧ (bsub (UInt8.ofNat x.val) (bitB p.val)).toNat + (bitB p.val).toNat < 256 := by decide +kernel
theorem add_bit (x : UInt8) (p : Nat) (hp : p < 8) : bsub x (bitB p) + bitB p = bor (bsub x (bitB p)) (bitB p) ∧ (bsub x (bitB p)).toNat + (bitB p).toNat < 256 :=
  all_u8 (P := fun x => bsub x (bitB p) + bitB p = bor (bsub x (bitB p)) (bitB p) ∧ (bsub x (bitB p)).toNat + (bitB p).toNat < 256) (fun k => add_bit_all k ⟨p, hp⟩) x
theorem tb_putB {x : UInt8} {p : Nat} {c : Bool} (hp : p < 8) {k : Nat} (hk : k < 8) : (putB x p c).toNat.testBit k = if k = p then c else x.toNat.testBit k := by
  unfold putB
  cases c with
  | true =>
    rw [if_pos rfl, (add_bit x p hp).1, tb_bor, tb_bsub _ _ _ hk, tb_bitB hp hk]
    by_cases e : k = p
    · subst e; simp
    · have e' : decide (p = k) = false := by rw [decide_eq_false_iff_not]; exact fun h => e h.symm
      rw [if_neg e, e']; simp
  | false =>
    rw [if_neg (by simp), tb_bsub _ _ _ hk, tb_bitB hp hk]
    by_cases e : k = p
    · subst e; simp
    · have e' : decide (p = k) = false := by rw [decide_eq_false_iff_not]; exact fun h => e h.symm
      rw [if_neg e, e']; simp
/-- the first k bytes are put -/
def putK (L : List UInt8) (p : Nat) (l : List UInt8) (k : Nat) : List UInt8 := (List.range L.length).map fun i => if i < k then putB (gd L i) p (bit l i) else gd L i
theorem length_putK (L : List UInt8) (p : Nat) (l : List UInt8) (k : Nat) : (putK L p l k).length = L.length := by simp [putK]
theorem gd_putK {L : List UInt8} {p : Nat} {l : List UInt8} {k i : Nat} (h : i < L.length) : gd (putK L p l k) i = if i < k then putB (gd L i) p (bit l i) else gd L i := by
  simp [gd, putK, h]
theorem putK_zero (L : List UInt8) (p : Nat) (l : List UInt8) : putK L p l 0 = L := by
  refine list_ext (length_putK _ _ _ _) fun i hi => ?_
  rw [length_putK] at hi
  rw [gd_putK hi]; simp
theorem putK_succ {L : List UInt8} {p : Nat} {l : List UInt8} {k : Nat} (h : k < L.length) : putK L p l (k + 1) = (putK L p l k).set k (putB (gd L k) p (bit l k)) := by
  refine list_ext (by rw [List.length_set, length_putK, length_putK]) fun i hi => ?_
  rw [length_putK] at hi
  rw [gd_putK hi, gd_set _ _ _ (by rw [length_putK]; exact h), gd_putK hi]
  by_cases e : k = i
  · subst e; simp
  · rw [if_neg e]
    have h1 : (i < k + 1) ↔ (i < k) := by omega
    simp only [h1]
theorem put_text {n p : Nat} {f : Nat → List UInt8} {l : List UInt8} (hp : p < 8) : putK (textL n f) p l n = textL n (upd f p (least l)) := by
  refine list_ext (by rw [length_putK, length_textL, length_textL]) fun i hi => ?_
  rw [length_putK, length_textL] at hi
  rw [gd_putK (by rw [length_textL]; exact hi), if_pos hi, gd_textL _ hi, gd_textL _ hi]
  refine u8_ext fun k hk => ?_
  rw [tb_putB hp hk, tb_byte _ k hk, tb_byte _ k hk]
  by_cases e : k = p
  · subst e; rw [if_pos rfl, upd_self, bit_least]
  · rw [if_neg e, upd_ne e]
/-- what the reference collects of a text -/
theorem ref_plane {n p : Nat} {f : Nat → List UInt8} (h : Ok n f) (hp : p < 8) : ofL (intsN (places (textL n f) p n)) = f p := by
  have := planeOf_text h hp
  unfold planeOf at this
  rwa [length_textL] at this
def busy (L : List UInt8) (k : Nat) : List Nat := (List.range k).filter fun b => !(gd L b == 0)
theorem busy_succ (L : List UInt8) (k : Nat) : busy L (k + 1) = busy L k ++ (if gd L k = 0 then [] else [k]) := by
  simp only [busy, List.range_succ, List.filter_append, List.filter_cons, List.filter_nil]
  by_cases h : gd L k = 0
  · simp [h]
  · simp [h]
theorem length_busy (L : List UInt8) (k : Nat) : (busy L k).length ≤ k := by
  have := List.length_filter_le (fun b => !(gd L b == 0)) (List.range k)
  simpa [busy] using this
theorem okI_busy {L : List UInt8} {k : Nat} (h : k ≤ 65535) : okI (intsN (busy L k)) = true := okI_nats fun m hm => by
  simp only [busy, List.mem_filter, List.mem_range] at hm; omega
theorem ref_used {n : Nat} {f : Nat → List UInt8} (h : Ok n f) : ofL (intsN (busy (textL n f) n)) = used f := by
  have hhi := h.hi
  have hb : ∀ m : Nat, bit (used f) m = decide ((m : Int) ∈ intsN (busy (textL n f) n)) := fun m => by
    have hmem : ((m : Int) ∈ intsN (busy (textL n f) n)) ↔ (m < n ∧ gd (textL n f) m ≠ 0) := by
      rw [mem_intsN]
      simp [busy]
    by_cases hm : m < n
    · have ht := text_zero (f := f) hm
      cases hc : bit (used f) m with
      | false => exact (decide_eq_false (fun h => (hmem.1 h).2 (ht.2 hc))).symm
      | true => exact (decide_eq_true (hmem.2 ⟨hm, fun e => by rw [ht.1 e] at hc; cases hc⟩)).symm
    · cases hc : bit (used f) m with
      | false => exact (decide_eq_false (fun h => hm (hmem.1 h).1)).symm
      | true => exact absurd (fits_usedN h (Nat.le_refl 8) m hc).2 hm
  have h1 := ofL_eq (zs := intsN (busy (textL n f) n)) (okI_busy (by omega)) hb
  rw [← h1]
  exact least_usedN f 8

/-! ### What follows -/
theorem diff_back {p q : List UInt8} (hq : least q = q) : mk bsub (mk bor p (mk bsub q p)) (mk bsub p q) = q := by
  refine eq_of_bits (mk_least _ _ _) hq fun m => ?_
  rw [bit_mk_sub, bit_mk_or, bit_mk_sub, bit_mk_sub]
  cases bit p m <;> cases bit q m <;> rfl
theorem nil_of_bits {a : List UInt8} (ha : least a = a) (h : ∀ m, bit a m = false) : a = [] :=
  eq_of_bits ha rfl fun m => by rw [h, bit_nil]
theorem and_diff (p q : List UInt8) : mk band p (mk bsub q p) = [] := by
  refine nil_of_bits (mk_least _ _ _) fun m => ?_
  rw [bit_mk_and, bit_mk_sub]; cases bit p m <;> cases bit q m <;> rfl
theorem diff_in (p q : List UInt8) : mk bsub (mk bsub p q) p = [] := by
  refine nil_of_bits (mk_least _ _ _) fun m => ?_
  rw [bit_mk_sub, bit_mk_sub]; cases bit p m <;> cases bit q m <;> rfl
theorem diff_apart (p q : List UInt8) : mk band (mk bsub q p) (mk bsub p q) = [] := by
  refine nil_of_bits (mk_least _ _ _) fun m => ?_
  rw [bit_mk_and, bit_mk_sub, bit_mk_sub]; cases bit p m <;> cases bit q m <;> rfl
theorem any_two {g : Nat → Bool} {i j : Nat} (hi : i < 8) (hj : j < 8) (h : ∀ p, p < 8 → p ≠ i → p ≠ j → g p = false) : (List.range 8).any g = (g i || g j) := by
  cases hg : (g i || g j) with
  | true =>
    rw [List.any_eq_true]
    rw [Bool.or_eq_true] at hg
    rcases hg with h1 | h1
    · exact ⟨i, List.mem_range.2 hi, h1⟩
    · exact ⟨j, List.mem_range.2 hj, h1⟩
  | false =>
    rw [List.any_eq_false]
    intro p hp
    rw [List.mem_range] at hp
    rw [Bool.or_eq_false_iff] at hg
    by_cases e1 : p = i
    · subst e1; simp [hg.1]
    · by_cases e2 : p = j
      · subst e2; simp [hg.2]
      · simp [h p hp e1 e2]
theorem used_two {a b : List UInt8} {i j : Nat} (hi : i < 8) (hj : j < 8) (hij : i ≠ j) : used (upd (upd (fun _ => []) i a) j b) = mk bor a b := by
  refine eq_of_bits (least_usedN _ 8) (mk_least _ _ _) fun m => ?_
  rw [bit_used, bit_mk_or, any_two hi hj (fun p _ h1 h2 => by rw [upd_ne h2, upd_ne h1, bit_nil]), upd_self, upd_ne hij, upd_self]
theorem used_one {a : List UInt8} {i : Nat} (hi : i < 8) (ha : least a = a) : used (upd (fun _ => []) i a) = a := by
  refine eq_of_bits (least_usedN _ 8) ha fun m => ?_
  rw [bit_used, any_two hi hi (fun p _ h1 _ => by rw [upd_ne h1, bit_nil]), upd_self, Bool.or_self]
theorem used_none : used (fun _ => []) = [] := nil_of_bits (least_usedN _ 8) fun m => by rw [bit_used]; simp [bit_nil]
theorem used_all {a : List UInt8} (ha : least a = a) {f : Nat → List UInt8} (h : ∀ p, p < 8 → f p = a) : used f = a := by
  refine eq_of_bits (least_usedN _ 8) ha fun m => ?_
  rw [bit_used]
  cases hb : bit a m with
  | true => rw [List.any_eq_true]; exact ⟨0, by simp, by rw [h 0 (by omega)]; exact hb⟩
  | false => rw [List.any_eq_false]; intro p hp; rw [List.mem_range] at hp; rw [h p hp, hb]; simp
theorem used_congr {f g : Nat → List UInt8} (h : ∀ p, p < 8 → f p = g p) : used f = used g := by
  refine eq_of_bits (least_usedN _ 8) (least_usedN _ 8) fun m => ?_
  rw [bit_used, bit_used]
  have : ∀ p ∈ List.range 8, bit (f p) m = bit (g p) m := fun p hp => by rw [h p (List.mem_range.1 hp)]
  cases hb : (List.range 8).any (fun p => bit (g p) m) with
  | true => rw [List.any_eq_true] at hb ⊢; obtain ⟨p, hp, e⟩ := hb; exact ⟨p, hp, by rw [this p hp]; exact e⟩
  | false => rw [List.any_eq_false] at hb ⊢; intro p hp; rw [this p hp]; exact hb p hp
/-- what two have together is what the one has, and what the other has apart -/
theorem cnt_or_sub {n : Nat} {a b : List UInt8} (ha : Fits n a) (hb : Fits n b) : cnt (mk bor a b) = cnt a + cnt (mk bsub b a) := by
  have h1 : Fits n (mk bor a b) := fun m hm => by
    rw [bit_mk_or, Bool.or_eq_true] at hm
    rcases hm with h | h
    · exact ha m h
    · exact hb m h
  have h2 : Fits n (mk bsub b a) := fun m hm => by
    rw [bit_mk_sub, Bool.and_eq_true] at hm
    exact hb m hm.1
  rw [cnt_range h1, cnt_range ha, cnt_range h2]
  have : ∀ l : List Nat, (l.filter (bit (mk bor a b))).length = (l.filter (bit a)).length + (l.filter (bit (mk bsub b a))).length := by
    intro l
    induction l with
    | nil => rfl
    | cons x l ih =>
      simp only [List.filter_cons, bit_mk_or, bit_mk_sub]
      cases bit a x <;> cases bit b x <;> simp <;> omega
  exact this _
end Go.Proofs.YtmloljjllmmkoaaGreat.PL

namespace Go.Proofs.YtmloljjllmmkoaaGreat.AL
open SM PL

/-- the free ones among the numbers below k -/
def frees (u : List UInt8) (k : Nat) : List Nat := (List.range k).filter fun b => decide (1 ≤ b) && !bit u b
theorem frees_succ (u : List UInt8) (k : Nat) : frees u (k + 1) = frees u k ++ (if 1 ≤ k ∧ bit u k = false then [k] else []) := by
  unfold frees
  rw [List.range_succ, List.filter_append]
  congr 1
  by_cases h : 1 ≤ k ∧ bit u k = false
  · rw [if_pos h]; simp [h.1, h.2]
  · rw [if_neg h]
    simp only [List.filter_cons, List.filter_nil]
    rw [if_neg]
    intro hc
    simp only [Bool.and_eq_true, decide_eq_true_eq, Bool.not_eq_true'] at hc
    exact h hc
theorem mem_frees {u : List UInt8} {k m : Nat} : m ∈ frees u k ↔ m < k ∧ 1 ≤ m ∧ bit u m = false := by simp [frees]
theorem sorted_frees (u : List UInt8) (k : Nat) : (frees u k).Pairwise (· < ·) := List.Pairwise.filter _ List.pairwise_lt_range
theorem length_frees (u : List UInt8) (k : Nat) : (frees u k).length ≤ k := by
  have := List.length_filter_le (fun b => decide (1 ≤ b) && !bit u b) (List.range k)
  simpa [frees] using this
theorem frees_one (u : List UInt8) : frees u 1 = [] := by simp [frees, List.range_succ]
theorem okI_frees {u : List UInt8} {k : Nat} (h : k ≤ 65536) : okI (intsN (frees u k)) = true := okI_nats fun m hm => by have := (mem_frees.1 hm).1; omega
/-- the set of the free ones -/
def freeT (u : List UInt8) (n : Nat) : List UInt8 := ofL (intsN (frees u n))
theorem bit_freeT {u : List UInt8} {n : Nat} (h : n ≤ 65536) (m : Nat) : bit (freeT u n) m = decide (m ∈ frees u n) := by
  unfold freeT
  rw [bit_ofL (okI_frees h)]
  simp only [mem_intsN]
theorem nums_freeT {u : List UInt8} {n : Nat} (h : n ≤ 65536) (p : Nat) : nums (freeT u n) p = (frees u n).filter fun b => decide (p ≤ b) := by
  refine sorted_ext _ _ (sorted_nums _ _) ((sorted_frees u n).filter _) fun m => ?_
  rw [mem_nums, bit_freeT h]
  simp [and_comm]
theorem nums_freeT0 {u : List UInt8} {n : Nat} (h : n ≤ 65536) : nums (freeT u n) 0 = frees u n := by
  rw [nums_freeT h]; simp
theorem cnt_freeT {u : List UInt8} {n : Nat} (h : n ≤ 65536) : cnt (freeT u n) = (frees u n).length := by rw [← length_nums_zero, nums_freeT0 h]
theorem length_freeT {u : List UInt8} {n : Nat} (h : n ≤ 65536) : (freeT u n).length ≤ 8192 := by
  unfold freeT; rw [length_ofL]; exact lenI_le (okI_frees h)

/-- their order from a place on -/
def ord (u : List UInt8) (n f : Nat) : List Nat := ((frees u n).filter fun b => decide (f ≤ b)) ++ ((frees u n).filter fun b => decide (b < f))
theorem mem_ord {u : List UInt8} {n f m : Nat} : m ∈ ord u n f ↔ m ∈ frees u n := by
  simp only [ord, List.mem_append, List.mem_filter, decide_eq_true_eq]
  constructor
  · rintro (h | h) <;> exact h.1
  · intro h
    by_cases k : f ≤ m
    · exact .inl ⟨h, k⟩
    · exact .inr ⟨h, by omega⟩
theorem length_two (f : Nat) (l : List Nat) : (l.filter fun b => decide (f ≤ b)).length + (l.filter fun b => decide (b < f)).length = l.length := by
  induction l with
  | nil => rfl
  | cons x l ih =>
    simp only [List.filter_cons]
    by_cases h : f ≤ x
    · have h2 : ¬ x < f := by omega
      simp only [h, h2, decide_true, decide_false, if_true, Bool.false_eq_true, if_false, List.length_cons]; omega
    · have h2 : x < f := by omega
      simp only [h, h2, decide_true, decide_false, if_true, Bool.false_eq_true, if_false, List.length_cons]; omega
theorem length_ord (u : List UInt8) (n f : Nat) : (ord u n f).length = (frees u n).length := by
  rw [ord, List.length_append, length_two]
theorem length_ord_lt (u : List UInt8) {n : Nat} (f : Nat) (hn : 1 ≤ n) : (ord u n f).length + 1 ≤ n := by
  rw [length_ord]
  have : ∀ k, (frees u (k + 1)).length ≤ k := by
    intro k
    induction k with
    | zero => rw [frees_one]; simp
    | succ k ih => rw [frees_succ, List.length_append]; split <;> simp <;> omega
  have h := this (n - 1)
  rw [show n - 1 + 1 = n by omega] at h
  omega
theorem ord_in {u : List UInt8} {n f k : Nat} (h : k < (ord u n f).length) : 1 ≤ (ord u n f)[k] ∧ (ord u n f)[k] < n ∧ bit u (ord u n f)[k] = false := by
  have := mem_frees.1 (mem_ord.1 (List.getElem_mem h))
  exact ⟨this.2.1, this.1, this.2.2⟩
theorem nodup_ord (u : List UInt8) (n f : Nat) : (ord u n f).Nodup := by
  have hs : ∀ (q : Nat → Bool), ((frees u n).filter q).Nodup := fun q => ((sorted_frees u n).filter q).imp fun h => by omega
  rw [ord, List.nodup_append]
  refine ⟨hs _, hs _, fun a ha b hb => ?_⟩
  simp only [List.mem_filter, decide_eq_true_eq] at ha hb
  omega

/-- the place behind so many of them -/
def placeAt (o : List Nat) (f k : Nat) : Nat := if k = 0 then f else o.getD (k - 1) 0 + 1
theorem placeAt_zero (o : List Nat) (f : Nat) : placeAt o f 0 = f := rfl
theorem placeAt_succ {o : List Nat} {f k : Nat} (h : k < o.length) : placeAt o f (k + 1) = o[k] + 1 := by
  simp [placeAt, h]
/-- what is next from a place on, round and round -/
def nextS (l : List UInt8) (p : Nat) : Nat := ((nums l p).head?).getD (((nums l 0).head?).getD 0)
theorem filter_drop {l : List Nat} (hs : l.Pairwise (· < ·)) {k : Nat} (h : k < l.length) : (l.filter fun b => decide (l[k] + 1 ≤ b)) = l.drop (k + 1) := by
  induction l generalizing k with
  | nil => simp at h
  | cons x l ih =>
    rw [List.pairwise_cons] at hs
    cases k with
    | zero =>
      simp only [List.getElem_cons_zero, List.filter_cons, List.drop_succ_cons, List.drop_zero]
      rw [if_neg (by simp)]
      rw [List.filter_eq_self]
      intro a ha
      have := hs.1 a ha
      simp; omega
    | succ k =>
      have hk : k < l.length := by simpa using h
      simp only [List.getElem_cons_succ, List.filter_cons, List.drop_succ_cons]
      have hx := hs.1 l[k] (List.getElem_mem hk)
      rw [if_neg (by simp; omega), ih hs.2 hk]
theorem head_drop {l : List Nat} {k : Nat} (h : k < l.length) : (l.drop k).head? = some l[k] := by rw [List.head?_drop]; simp [h]
theorem frees_split (u : List UInt8) (n f : Nat) : frees u n = ((frees u n).filter fun b => decide (b < f)) ++ ((frees u n).filter fun b => decide (f ≤ b)) := by
  refine sorted_ext _ _ (sorted_frees u n) ?_ fun m => ?_
  · rw [List.pairwise_append]
    refine ⟨(sorted_frees u n).filter _, (sorted_frees u n).filter _, fun a ha b hb => ?_⟩
    simp only [List.mem_filter, decide_eq_true_eq] at ha hb
    omega
  · simp only [List.mem_append, List.mem_filter, decide_eq_true_eq]
    constructor
    · intro h
      by_cases k : f ≤ m
      · exact .inr ⟨h, k⟩
      · exact .inl ⟨h, by omega⟩
    · rintro (h | h) <;> exact h.1
theorem next_ord {u : List UInt8} {n f k : Nat} (hn : n ≤ 65536) (h : k < (ord u n f).length) : nextS (freeT u n) (placeAt (ord u n f) f k) = (ord u n f)[k] := by
  have hsp := frees_split u n f
  have hsA : ((frees u n).filter fun b => decide (f ≤ b)).Pairwise (· < ·) := (sorted_frees u n).filter _
  have hsB : ((frees u n).filter fun b => decide (b < f)).Pairwise (· < ·) := (sorted_frees u n).filter _
  have hA : ∀ a ∈ (frees u n).filter fun b => decide (f ≤ b), f ≤ a := fun a ha => by simp only [List.mem_filter, decide_eq_true_eq] at ha; exact ha.2
  have hB : ∀ a ∈ (frees u n).filter fun b => decide (b < f), a < f := fun a ha => by simp only [List.mem_filter, decide_eq_true_eq] at ha; exact ha.2
  have e0 : nums (freeT u n) f = (frees u n).filter fun b => decide (f ≤ b) := nums_freeT hn f
  have e1 : nums (freeT u n) 0 = ((frees u n).filter fun b => decide (b < f)) ++ ((frees u n).filter fun b => decide (f ≤ b)) := by rw [nums_freeT0 hn]; exact hsp
  have e2 : ∀ p, nums (freeT u n) p = (((frees u n).filter fun b => decide (b < f)) ++ ((frees u n).filter fun b => decide (f ≤ b))).filter fun b => decide (p ≤ b) := fun p => by rw [nums_freeT hn, ← hsp]
  unfold ord at h ⊢
  generalize ((frees u n).filter fun b => decide (f ≤ b)) = A at *
  generalize ((frees u n).filter fun b => decide (b < f)) = B at *
  unfold nextS
  rw [e1]
  cases k with
  | zero =>
    rw [placeAt_zero, e0]
    cases A with
    | cons a A => simp
    | nil =>
      cases B with
      | cons b B => simp
      | nil => simp at h
  | succ k =>
    rw [placeAt_succ (by omega), e2, List.filter_append]
    rw [List.length_append] at h
    by_cases hk : k < A.length
    · have hak : f ≤ A[k] := hA _ (List.getElem_mem hk)
      have eB : B.filter (fun b => decide ((A ++ B)[k] + 1 ≤ b)) = [] := by
        rw [List.filter_eq_nil_iff]
        intro b hb
        have := hB b hb
        rw [List.getElem_append_left hk]
        simp; omega
      have eA : A.filter (fun b => decide ((A ++ B)[k] + 1 ≤ b)) = A.drop (k + 1) := by
        rw [List.getElem_append_left hk]; exact filter_drop hsA hk
      rw [eA, eB, List.nil_append]
      by_cases hk1 : k + 1 < A.length
      · rw [head_drop hk1, Option.getD_some, List.getElem_append_left hk1]
      · have : A.length = k + 1 := by omega
        have hb0 : 0 < B.length := by omega
        rw [List.drop_of_length_le (by omega), List.head?_nil, Option.getD_none]
        cases B with
        | nil => simp at hb0
        | cons b B =>
          rw [List.getElem_append_right (by omega)]
          simp [this]
    · have hkb : k - A.length < B.length := by omega
      have eK : (A ++ B)[k]'(by rw [List.length_append]; omega) = B[k - A.length] := List.getElem_append_right (by omega)
      have eB : B.filter (fun b => decide ((A ++ B)[k]'(by rw [List.length_append]; omega) + 1 ≤ b)) = B.drop (k - A.length + 1) := by
        rw [eK]; exact filter_drop hsB hkb
      rw [eB]
      have hk1 : k - A.length + 1 < B.length := by omega
      rw [List.head?_append, head_drop hk1, Option.some_or, Option.getD_some, List.getElem_append_right (by omega)]
      congr 1
      omega

/-! ### As the reference makes it -/
def turned (n f i : Nat) : Nat := if n ≤ f + i then f + i - n else f + i
def rord (u : List UInt8) (n f k : Nat) : List Nat := ((List.range k).map (turned n f)).filter fun b => decide (1 ≤ b) && !bit u b
theorem rord_succ (u : List UInt8) (n f k : Nat) : rord u n f (k + 1) = rord u n f k ++ (if 1 ≤ turned n f k ∧ bit u (turned n f k) = false then [turned n f k] else []) := by
  unfold rord
  rw [List.range_succ, List.map_append, List.filter_append]
  congr 1
  by_cases h : 1 ≤ turned n f k ∧ bit u (turned n f k) = false
  · rw [if_pos h]; simp [h.1, h.2]
  · rw [if_neg h]
    simp only [List.map_cons, List.map_nil, List.filter_cons, List.filter_nil]
    rw [if_neg]
    intro hc
    simp only [Bool.and_eq_true, decide_eq_true_eq, Bool.not_eq_true'] at hc
    exact h hc
theorem length_rord (u : List UInt8) (n f k : Nat) : (rord u n f k).length ≤ k := by
  have := List.length_filter_le (fun b => decide (1 ≤ b) && !bit u b) ((List.range k).map (turned n f))
  simpa [rord] using this
theorem rord_all (u : List UInt8) {n f : Nat} (hf : f ≤ n) : rord u n f n = ord u n f := by
  have h1 : (List.range n).map (turned n f) = (List.range n).drop f ++ (List.range n).take f := by
    apply List.ext_getElem
    · simp; omega
    · intro i h1 h2
      have hi : i < n := by simpa using h1
      simp only [List.getElem_map, List.getElem_range, turned]
      by_cases hc : n ≤ f + i
      · rw [if_pos hc, List.getElem_append_right (by simp; omega)]
        simp; omega
      · rw [if_neg hc, List.getElem_append_left (by simp; omega)]
        simp
  unfold rord ord
  rw [h1, List.filter_append]
  have d1 : (List.range n).drop f = (List.range n).filter fun b => decide (f ≤ b) := by
    refine sorted_ext _ _ (List.pairwise_lt_range.drop) (List.pairwise_lt_range.filter _) fun m => ?_
    rw [List.mem_filter]
    simp only [List.mem_range, decide_eq_true_eq]
    rw [List.range_eq_range', List.drop_range']
    simp only [List.mem_range'_1]
    omega
  have d2 : (List.range n).take f = (List.range n).filter fun b => decide (b < f) := by
    refine sorted_ext _ _ (List.pairwise_lt_range.take) (List.pairwise_lt_range.filter _) fun m => ?_
    rw [List.mem_filter]
    simp only [List.mem_range, decide_eq_true_eq]
    rw [List.take_range]
    simp only [List.mem_range]
    omega
  rw [d1, d2, List.filter_filter, List.filter_filter, frees, List.filter_filter, List.filter_filter]
  congr 1
  · apply List.filter_congr; intro x _; rw [Bool.and_comm]
  · apply List.filter_congr; intro x _; rw [Bool.and_comm]
/-! ### What is left behind some that are used -/
theorem ord_eq {s : List UInt8} {n p : Nat} {X Y : List Nat} (hX : X.Pairwise (· < ·)) (hY : Y.Pairwise (· < ·)) (h1 : ∀ a ∈ X, p ≤ a) (h2 : ∀ a ∈ Y, a < p) (h : ∀ m, m ∈ frees s n ↔ m ∈ X ++ Y) : ord s n p = X ++ Y := by
  unfold ord
  congr 1
  · refine sorted_ext _ _ ((sorted_frees s n).filter _) hX fun m => ?_
    simp only [List.mem_filter, decide_eq_true_eq, h m, List.mem_append]
    constructor
    · rintro ⟨k | k, k2⟩
      · exact k
      · have := h2 m k; omega
    · intro k; exact ⟨.inl k, h1 m k⟩
  · refine sorted_ext _ _ ((sorted_frees s n).filter _) hY fun m => ?_
    simp only [List.mem_filter, decide_eq_true_eq, h m, List.mem_append]
    constructor
    · rintro ⟨k | k, k2⟩
      · have := h1 m k; omega
      · exact k
    · intro k; exact ⟨.inr k, h2 m k⟩
theorem mem_drop_iff {l : List Nat} (hn : l.Nodup) (k m : Nat) : m ∈ l.drop k ↔ m ∈ l ∧ m ∉ l.take k := by
  have e := List.take_append_drop k l
  rw [← e, List.nodup_append] at hn
  constructor
  · intro h
    exact ⟨List.mem_of_mem_drop h, fun h2 => hn.2.2 m h2 m h rfl⟩
  · rintro ⟨h, h2⟩
    rw [← e, List.mem_append] at h
    exact h.resolve_left h2
theorem drop_above {l : List Nat} (hs : l.Pairwise (· < ·)) {j a : Nat} (h : j < l.length) (ha : a ∈ l.drop (j + 1)) : l[j] + 1 ≤ a := by
  rw [← filter_drop hs h] at ha
  simpa using (List.mem_filter.1 ha).2
/-- what is picked, with what was picked of it used, is the rest -/
theorem ord_parts {u s : List UInt8} {n f k : Nat} (hk : k ≤ (ord u n f).length) (hs : ∀ m, bit s m = (bit u m || decide (m ∈ (ord u n f).take k))) :
    ord s n (placeAt (ord u n f) f k) = (ord u n f).drop k := by
  have hnd := nodup_ord u n f
  have hmem : ∀ m, m ∈ frees s n ↔ m ∈ (ord u n f).drop k := fun m => by
    rw [mem_drop_iff hnd, mem_ord, mem_frees, mem_frees, hs m, Bool.or_eq_false_iff, decide_eq_false_iff_not]
    constructor
    · rintro ⟨h1, h2, h3, h4⟩; exact ⟨⟨h1, h2, h3⟩, h4⟩
    · rintro ⟨⟨h1, h2, h3⟩, h4⟩; exact ⟨h1, h2, h3, h4⟩
  have hsA : ((frees u n).filter fun b => decide (f ≤ b)).Pairwise (· < ·) := (sorted_frees u n).filter _
  have hsB : ((frees u n).filter fun b => decide (b < f)).Pairwise (· < ·) := (sorted_frees u n).filter _
  have hA : ∀ a ∈ (frees u n).filter fun b => decide (f ≤ b), f ≤ a := fun a ha => by simp only [List.mem_filter, decide_eq_true_eq] at ha; exact ha.2
  have hB : ∀ a ∈ (frees u n).filter fun b => decide (b < f), a < f := fun a ha => by simp only [List.mem_filter, decide_eq_true_eq] at ha; exact ha.2
  clear hs hnd
  have eO : ord u n f = ((frees u n).filter fun b => decide (f ≤ b)) ++ ((frees u n).filter fun b => decide (b < f)) := rfl
  rw [eO] at hk hmem ⊢
  generalize ((frees u n).filter fun b => decide (f ≤ b)) = A at *
  generalize ((frees u n).filter fun b => decide (b < f)) = B at *
  rw [List.length_append] at hk
  by_cases hc : k ≤ A.length
  · have e : (A ++ B).drop k = A.drop k ++ B := List.drop_append_of_le_length hc
    rw [e] at hmem ⊢
    refine ord_eq (hsA.drop) hsB (fun a ha => ?_) (fun a ha => ?_) hmem
    · cases k with
      | zero => exact hA a (by simpa using ha)
      | succ j =>
        rw [placeAt_succ (by rw [List.length_append]; omega), List.getElem_append_left (by omega)]
        exact drop_above hsA (by omega) ha
    · have hb := hB a ha
      cases k with
      | zero => exact hb
      | succ j =>
        rw [placeAt_succ (by rw [List.length_append]; omega), List.getElem_append_left (by omega)]
        have := hA _ (List.getElem_mem (show j < A.length by omega))
        omega
  · have e : (A ++ B).drop k = B.drop (k - A.length) ++ [] := by rw [List.append_nil, List.drop_append, List.drop_of_length_le (by omega), List.nil_append]
    rw [e] at hmem ⊢
    refine ord_eq (hsB.drop) List.Pairwise.nil (fun a ha => ?_) (fun a ha => by cases ha) hmem
    obtain ⟨j, rfl⟩ : ∃ j, k = j + 1 := ⟨k - 1, by omega⟩
    rw [placeAt_succ (by rw [List.length_append]; omega), List.getElem_append_right (by omega)]
    exact drop_above hsB (by omega) (by rwa [show j - A.length + 1 = j + 1 - A.length by omega])
theorem placeAt_drop {o : List Nat} {f k j : Nat} (h : k + j ≤ o.length) : placeAt (o.drop k) (placeAt o f k) j = placeAt o f (k + j) := by
  cases j with
  | zero => rfl
  | succ j =>
    rw [placeAt_succ (by simp; omega), show k + (j + 1) = (k + j) + 1 by omega, placeAt_succ (by omega)]
    simp
theorem placeAt_range {u : List UInt8} {n f k : Nat} (hf : 1 ≤ f) (hfn : f ≤ n) (hk : k ≤ (ord u n f).length) : 1 ≤ placeAt (ord u n f) f k ∧ placeAt (ord u n f) f k ≤ n := by
  cases k with
  | zero => exact ⟨hf, hfn⟩
  | succ j =>
    rw [placeAt_succ (by omega)]
    have := ord_in (u := u) (n := n) (f := f) (k := j) (by omega)
    omega
end Go.Proofs.YtmloljjllmmkoaaGreat.AL

