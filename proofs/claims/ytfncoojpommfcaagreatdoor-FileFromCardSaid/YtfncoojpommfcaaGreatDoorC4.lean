/-
  CmdX / CmdO / CmdR.
-/
import Derived.Test.YtfncoojpommfcaaGreatDoorC3
import Derived.Test.YtfncoojpommfcaaGreatDoorKS
import Derived.Lib.ItoaLen
import Derived.Lib.SmallJoins
namespace Go.Proofs.YtfncoojpommfcaaGreatDoor
open Go.RowKit Go

/-! ### Closed calls -/
def fixW : Cmd := ⟨2, ⟨#[47, 97]⟩, ⟨#[]⟩, 5, ⟨#[0, 255]⟩⟩
def fixS : Cmd := ⟨7, ⟨#[120]⟩, ⟨#[]⟩, 0, ⟨#[]⟩⟩
def fixM : Cmd := ⟨0, ⟨#[47, 97]⟩, ⟨#[]⟩, 1, ⟨#[]⟩⟩
theorem name_a : NameOk ⟨#[97]⟩ := by unfold NameOk; decide
theorem name_b : NameOk ⟨#[98]⟩ := by unfold NameOk; decide
theorem name_x : NameOk ⟨#[120]⟩ := by unfold NameOk; decide
theorem path_a : IsPath ⟨#[47, 97]⟩ [⟨#[97]⟩] := ⟨by simpa using name_a, by simp, .inr ⟨by simp, rfl⟩⟩
theorem path_ab : IsPath ⟨#[47, 97, 47, 98]⟩ [⟨#[97]⟩, ⟨#[98]⟩] := ⟨by simpa using ⟨name_a, name_b⟩, by simp, .inr ⟨by simp, rfl⟩⟩
theorem no_path_a (l : List ByteArray) : ¬ IsPath ⟨#[97]⟩ l := by
  intro h
  rcases h.2.2 with ⟨_, e⟩ | ⟨_, e⟩
  · revert e; decide
  · have := (List.cons.inj e).1
    revert this; decide
theorem itoa_5 : Lib.itoa 5 = [53] := by
  have : Lib.itoa ((5 : Nat) : Int) = Lib.decDigits 5 := Lib.itoa_nonneg 5
  rw [show (5 : Int) = ((5 : Nat) : Int) from rfl, this, Lib.decDigits_one (by omega)]
  rfl
theorem mayW : MayK fixW 2 := ⟨⟨_, path_a⟩, rfl, ⟨by decide, by decide⟩, by decide⟩
theorem mayS : MayK fixS 7 := ⟨name_x, rfl, rfl, rfl⟩
theorem lineW : bs (lineK 2 fixW) = ⟨#[119, 114, 105, 116, 101, 32, 47, 97, 32, 53, 32, 48, 48, 102, 102]⟩ := by
  have h : lineK 2 fixW = [119, 114, 105, 116, 101] ++ 32 :: ([47, 97] ++ 32 :: ((bs (Lib.itoa 5)).data.toList ++ 32 :: (bs (hexW [0, 255])).data.toList)) := rfl
  rw [h, bs_list, bs_list, itoa_5]
  rfl
theorem lineS : bs (lineK 7 fixS) = ⟨#[115, 110, 97, 112, 32, 120]⟩ := rfl
theorem isLineW : IsLine fixW ⟨#[119, 114, 105, 116, 101, 32, 47, 97, 32, 53, 32, 48, 48, 102, 102]⟩ := by rw [← lineW]; exact line_self (by omega) rfl mayW
theorem noM : ¬ MayC fixM := by
  rintro ⟨k, hk, hc, hm⟩
  have h0 : (0 : Int) = k := hc
  obtain rfl : k = 0 := by omega
  have : (1 : Int) = 0 := hm.2.2.1
  omega
theorem noCut (d : Cmd) : ¬ IsLine d ⟨#[99, 117, 116, 32, 47, 97, 32, 48, 53]⟩ := by
  intro h
  obtain ⟨k, hk, h1, h2, h3⟩ := h.words
  have hp : Parts 32 ⟨#[99, 117, 116, 32, 47, 97, 32, 48, 53]⟩ [⟨#[99, 117, 116]⟩, ⟨#[47, 97]⟩, ⟨#[48, 53]⟩] := ⟨by simp, by simp [NoB], rfl⟩
  have e := h3.uniq hp
  have ew := (List.cons.inj e).1
  obtain rfl : k = 3 := wordK_inj hk (by omega) ew
  have e2 := (List.cons.inj (List.cons.inj (List.cons.inj e).2).2).1
  have e3 : bs (Lib.itoa d.place) = ⟨#[48, 53]⟩ := e2
  have hat : AtW d.place ⟨#[48, 53]⟩ := ⟨h2.2.2.1.1, h2.2.2.1.2, by rw [← e3, bs_list]⟩
  have h5 : Lib.atoiAll [48, 53] = .ok 5 := by decide +kernel
  have hv := hat.atoi
  have : (Lib.NumEnd.ok d.place) = .ok 5 := hv.symm.trans h5
  have hd := Lib.NumEnd.ok.inj this
  rw [hd] at e3
  rw [itoa_5] at e3
  have := congrArg ByteArray.size e3
  revert this; decide
theorem cmdIn_of {c : Cmd} (h1 : IntOk c.kind) (h2 : IntOk c.place) (h3 : c.path.size ≤ 1000) (h4 : c.dest.size ≤ 1000) (h5 : c.data.size ≤ 1000) : CmdIn c := ⟨h1, h2, by omega, by omega, by omega⟩
theorem line_le {c : Cmd} {k : Nat} (hk : k < 9) (hp : IntOk c.place) (hd : c.data.size ≤ 512) : (lineK k c).length ≤ 7 + c.path.size + c.dest.size + 1100 := by
  have h1 : c.path.data.toList.length = c.path.size := Array.length_toList (xs := c.path.data)
  have h2 : c.dest.data.toList.length = c.dest.size := Array.length_toList (xs := c.dest.data)
  have h3 : (Lib.itoa c.place).length ≤ 21 := Lib.itoa_length_le _ hp.1 hp.2
  have h4 : (hexW c.data.data.toList).length ≤ 1024 := by
    have h5 : c.data.data.toList.length = c.data.size := Array.length_toList (xs := c.data.data)
    unfold hexW
    split
    · simp
    · rw [flat_hex_len]; omega
  rcases below9 hk with rfl | rfl | rfl | rfl | rfl | rfl | rfl | rfl | rfl <;>
    simp only [lineK, wordsC, fldK, List.map_cons, List.map_nil, fldLay, joinB, wordK, List.length_append, List.length_cons, bs_list, List.length_nil] <;> omega
theorem printW (w : World) (hg : GE w) : Calls Tryz.prog 31 #[.agg #[.int .i64 2, .string ⟨#[47, 97]⟩, .string ⟨#[]⟩, .int .i64 5, .string ⟨#[0, 255]⟩]] w fun e w' => e = .returned (.tuple #[.string ⟨#[119, 114, 105, 116, 101, 32, 47, 97, 32, 53, 32, 48, 48, 102, 102]⟩, .int .i64 0]) ∧ Below w.heap.size w w' := by
  refine (print_any fixW (cmdIn_of ⟨by decide, by decide⟩ ⟨by decide, by decide⟩ (by decide) (by decide) (by decide)) (fun k hk hd => Nat.le_trans (line_le hk ⟨by decide, by decide⟩ hd) (by decide)) w hg).mono ?_
  rintro e w' ⟨h, hB⟩
  refine ⟨?_, hB⟩
  rcases h with ⟨k, hk, hc, _, rfl⟩ | ⟨hn, _⟩
  · have h2 : (2 : Int) = k := hc
    obtain rfl : k = 2 := by omega
    rw [lineW]
  · exact absurd ⟨2, by omega, rfl, mayW⟩ hn
theorem printS (w : World) (hg : GE w) : Calls Tryz.prog 31 #[.agg #[.int .i64 7, .string ⟨#[120]⟩, .string ⟨#[]⟩, .int .i64 0, .string ⟨#[]⟩]] w fun e w' => e = .returned (.tuple #[.string ⟨#[115, 110, 97, 112, 32, 120]⟩, .int .i64 0]) ∧ Below w.heap.size w w' := by
  refine (print_any fixS (cmdIn_of ⟨by decide, by decide⟩ ⟨by decide, by decide⟩ (by decide) (by decide) (by decide)) (fun k hk hd => Nat.le_trans (line_le hk ⟨by decide, by decide⟩ hd) (by decide)) w hg).mono ?_
  rintro e w' ⟨h, hB⟩
  refine ⟨?_, hB⟩
  rcases h with ⟨k, hk, hc, _, rfl⟩ | ⟨hn, _⟩
  · have h2 : (7 : Int) = k := hc
    obtain rfl : k = 7 := by omega
    rw [lineS]
  · exact absurd ⟨7, by omega, rfl, mayS⟩ hn
theorem printM (w : World) (hg : GE w) : Calls Tryz.prog 31 #[.agg #[.int .i64 0, .string ⟨#[47, 97]⟩, .string ⟨#[]⟩, .int .i64 1, .string ⟨#[]⟩]] w fun e w' => e = .returned (.tuple #[.string ⟨#[]⟩, .int .i64 130]) ∧ Below w.heap.size w w' := by
  refine (print_any fixM (cmdIn_of ⟨by decide, by decide⟩ ⟨by decide, by decide⟩ (by decide) (by decide) (by decide)) (fun k hk hd => Nat.le_trans (line_le hk ⟨by decide, by decide⟩ hd) (by decide)) w hg).mono ?_
  rintro e w' ⟨h, hB⟩
  refine ⟨?_, hB⟩
  rcases h with ⟨k, hk, hc, hm, _⟩ | ⟨_, rfl⟩
  · exact absurd ⟨k, hk, hc, hm⟩ noM
  · rfl
theorem parseW (w : World) (hg : GE w) : Calls Tryz.prog 66 #[.string ⟨#[119, 114, 105, 116, 101, 32, 47, 97, 32, 53, 32, 48, 48, 102, 102]⟩] w fun e w' => e = .returned (.tuple #[.agg #[.int .i64 2, .string ⟨#[47, 97]⟩, .string ⟨#[]⟩, .int .i64 5, .string ⟨#[0, 255]⟩], .int .i64 0]) ∧ Below w.heap.size w w' := by
  refine (parse_any _ (by decide) w hg).mono ?_
  rintro e w' ⟨h, hB⟩
  refine ⟨?_, hB⟩
  rcases h with ⟨d, hd, rfl⟩ | ⟨hn, _⟩
  · rw [hd.uniq isLineW]; rfl
  · exact absurd isLineW (hn _)
theorem parseCut (w : World) (hg : GE w) : Calls Tryz.prog 66 #[.string ⟨#[99, 117, 116, 32, 47, 97, 32, 48, 53]⟩] w fun e w' => e = .returned (.tuple #[.agg #[.int .i64 0, .string ⟨#[]⟩, .string ⟨#[]⟩, .int .i64 0, .string ⟨#[]⟩], .int .i64 130]) ∧ Below w.heap.size w w' := by
  refine (parse_any _ (by decide) w hg).mono ?_
  rintro e w' ⟨h, hB⟩
  refine ⟨?_, hB⟩
  rcases h with ⟨d, hd, _⟩ | ⟨_, rfl⟩
  · exact absurd hd (noCut d)
  · rfl
theorem pathAB (w : World) : Calls Tryz.prog 85 #[.string ⟨#[47, 97, 47, 98]⟩] w fun e w' => ∃ v, e = .returned (.tuple #[v, .int .i64 0]) ∧ TextsAt w' v [⟨#[97]⟩, ⟨#[98]⟩] ∧ Below w.heap.size w w' := by
  refine (path_any _ (by decide) w).mono ?_
  rintro e w' ⟨h, hB⟩
  rcases h with ⟨l, v, hl, rfl, hrow⟩ | ⟨hn, _⟩
  · obtain rfl := hl.uniq path_ab
    exact ⟨v, rfl, texts_of_row hrow, hB⟩
  · exact absurd path_ab (hn _)
theorem pathA (w : World) : Calls Tryz.prog 85 #[.string ⟨#[97]⟩] w fun e w' => e = .returned (.tuple #[.slice none 0 0, .int .i64 130]) ∧ Below w.heap.size w w' := by
  refine (path_any _ (by decide) w).mono ?_
  rintro e w' ⟨h, hB⟩
  rcases h with ⟨l, v, hl, _⟩ | ⟨_, rfl⟩
  · exact absurd hl (no_path_a l)
  · exact ⟨rfl, hB⟩
end Go.Proofs.YtfncoojpommfcaaGreatDoor

namespace Go.Proofs.YtfncoojpommfcaaGreatDoor
open Go.ChangeShapes Go.WideShapes Go.ChangeAt Go.RowKit Go
structure CmdOk (c : Cmd) : Prop where
  kind : IntOk c.kind
  place : IntOk c.place
  path : c.path.size ≤ 140737488351232
  dest : c.dest.size ≤ 140737488351232
  data : c.data.size ≤ 140737488351232
theorem CmdOk.in_ {c : Cmd} (h : CmdOk c) : CmdIn c := ⟨h.kind, h.place, Nat.le_trans h.path (by decide), Nat.le_trans h.dest (by decide), Nat.le_trans h.data (by decide)⟩
def cmdD {H : Type} (c : Cmd) : DataW H := .agg [.lit (.int .i64 c.kind), .lit (.string c.path.data.toList), .lit (.string c.dest.data.toList), .lit (.int .i64 c.place), .lit (.string c.data.data.toList)]
theorem array5 {α : Type} {cs : Array α} (h : cs.size = 5) : ∃ c0 c1 c2 c3 c4, cs = #[c0, c1, c2, c3, c4] := by
  obtain ⟨l⟩ := cs
  match l, h with
  | [c0, c1, c2, c3, c4], _ => exact ⟨c0, c1, c2, c3, c4, rfl⟩
set_option maxRecDepth 100000 in
theorem cmd_open {H : Type} {enc : TypeId × Value → H} {W : World} {base : Nat} {v : Value} {d : DataW H} {p : List MemPlace}
    (hval : Value.okWide Tryz.prog W .any base 31 v) (h0 : DataW.Trod enc Tryz.prog W 0 (fun _ => true) true 31 v d p)
    {ts : List TypeId} {ds : List (DataW H)} {j : Nat} (hreach : (DataW.weightsEach Tryz.prog ts ds).all (· ≤ reachBytes) = true) (hts : ts[j]? = some 31) (hds : ds[j]? = some d) :
    ∃ c : Cmd, v = cmdV c ∧ CmdOk c ∧ p = [] ∧ (∀ (W' : World) (sp : Nat → Bool), DataW.Trod enc Tryz.prog W' 0 sp true 31 v d []) ∧ d = cmdD c := by
  obtain ⟨cs, rfl, hsz⟩ := okWide_struct Tryz.underlying31 hval
  obtain ⟨v0, v1, v2, v3, v4, rfl⟩ := array5 (hsz.trans (show Tryz.prog.cellsOf 31 = 5 by kernel_rfl))
  obtain ⟨fuel, hf⟩ := h0
  obtain ⟨xs, n, _, hx, hl, hlen, hfs⟩ := DataW.trod_struct Tryz.underlying31 hf
  have ci : Tryz.prog.cellsOf 3 = 1 := by kernel_rfl
  have cs : Tryz.prog.cellsOf 9 = 1 := by kernel_rfl
  match xs, hlen, hx, hfs with
  | [y0, y1, y2, y3, y4], _, hx, hfs =>
    have g0 := hfs 0 _ rfl
    have g1 := hfs 1 _ rfl
    have g2 := hfs 2 _ rfl
    have g3 := hfs 3 _ rfl
    have g4 := hfs 4 _ rfl
    simp [Value.cells, ci, cs] at g0 g1 g2 g3 g4
    obtain ⟨n0, a0, z0, w0⟩ := DataW.trod_int Tryz.underlying3 g0
    obtain ⟨s1, a1, z1, w1⟩ := DataW.trod_string Tryz.underlying9 g1
    obtain ⟨s2, a2, z2, w2⟩ := DataW.trod_string Tryz.underlying9 g2
    obtain ⟨n3, a3, z3, w3⟩ := DataW.trod_int Tryz.underlying3 g3
    obtain ⟨s4, a4, z4, w4⟩ := DataW.trod_string Tryz.underlying9 g4
    simp only [List.cons.injEq, and_true] at a0 a1 a2 a3 a4
    subst a0 a1 a2 a3 a4 z0 z1 z2 z3 z4
    simp at hx
    obtain ⟨rfl, rfl⟩ := hx
    have key : ∀ (i : Nat) (l : List UInt8), (DataW.weightsEach Tryz.prog [3, 9, 9, 3, 9] [DataW.lit (H := H) (.int .i64 n0), .lit (.string s1.data.toList), .lit (.string s2.data.toList), .lit (.int .i64 n3), .lit (.string s4.data.toList)]).all (· ≤ reachBytes) = true := fun _ _ => by
      refine List.all_eq_true.2 fun m hm => ?_
      have := List.all_eq_true.1 hreach m (DataW.weights_mem_each hts hds m (by
        simp only [DataW.weights, Tryz.underlying31]
        exact hm))
      exact this
    have K := key 0 []
    refine ⟨⟨n0, s1, s2, n3, s4⟩, rfl, ⟨int_range w0, int_range w3, reach_size (sized_string K (j := 1) rfl rfl), reach_size (sized_string K (j := 2) rfl rfl), reach_size (sized_string K (j := 4) rfl rfl)⟩, rfl, fun W' sp => ?_, rfl⟩
    obtain ⟨m0, t0⟩ := Joins.field_of_Trod (enc := enc) (P := Tryz.prog) (w := W') (base := 0) (spare := sp) (held := true) (shut_int Tryz.underlying3 w0) rfl
    obtain ⟨m1, t1⟩ := Joins.field_of_Trod (enc := enc) (P := Tryz.prog) (w := W') (base := 0) (spare := sp) (held := true) (Go.ChangeMaps.shut_string Tryz.underlying9 w1) rfl
    obtain ⟨m2, t2⟩ := Joins.field_of_Trod (enc := enc) (P := Tryz.prog) (w := W') (base := 0) (spare := sp) (held := true) (Go.ChangeMaps.shut_string Tryz.underlying9 w2) rfl
    obtain ⟨m3, t3⟩ := Joins.field_of_Trod (enc := enc) (P := Tryz.prog) (w := W') (base := 0) (spare := sp) (held := true) (shut_int Tryz.underlying3 w3) rfl
    obtain ⟨m4, t4⟩ := Joins.field_of_Trod (enc := enc) (P := Tryz.prog) (w := W') (base := 0) (spare := sp) (held := true) (Go.ChangeMaps.shut_string Tryz.underlying9 w4) rfl
    have q0 := DataW.trod_le (show m0 ≤ m0 + m1 + m2 + m3 + m4 by omega) t0
    have q1 := DataW.trod_le (show m1 ≤ m0 + m1 + m2 + m3 + m4 by omega) t1
    have q2 := DataW.trod_le (show m2 ≤ m0 + m1 + m2 + m3 + m4 by omega) t2
    have q3 := DataW.trod_le (show m3 ≤ m0 + m1 + m2 + m3 + m4 by omega) t3
    have q4 := DataW.trod_le (show m4 ≤ m0 + m1 + m2 + m3 + m4 by omega) t4
    have := trod_struct_mk (enc := enc) (w := W') (base := 0) (spare := sp) (held := true) (n := m0 + m1 + m2 + m3 + m4) (cs := [.int .i64 n0, .string s1, .string s2, .int .i64 n3, .string s4]) (xs := [(.lit (.int .i64 n0), []), (.lit (.string s1.data.toList), []), (.lit (.string s2.data.toList), []), (.lit (.int .i64 n3), []), (.lit (.string s4.data.toList), [])]) Tryz.underlying31 hl (by simp [ci, cs, q0, q1, q2, q3, q4])
    exact ⟨_, by simpa [Value.cells] using this⟩
/-- of a bulk that is bounded: so are the texts -/
theorem small_cmd {H : Type} {c : Cmd} {n : Nat} (h : Rows.uptoBulk (cmdD (H := H) c) ≤ n) : c.path.size + c.dest.size + c.data.size ≤ n := by
  have h1 : c.path.data.toList.length = c.path.size := Array.length_toList (xs := c.path.data)
  have h2 : c.dest.data.toList.length = c.dest.size := Array.length_toList (xs := c.dest.data)
  have h3 : c.data.data.toList.length = c.data.size := Array.length_toList (xs := c.data.data)
  simp only [cmdD, Rows.uptoBulk, Rows.uptoBulkAll] at h
  omega
end Go.Proofs.YtfncoojpommfcaaGreatDoor

namespace Go.Proofs.YtfncoojpommfcaaGreatDoor
open Go.RowKit Go

theorem join_prefix {c : UInt8} : ∀ {ps qs : List ByteArray} {R : List UInt8}, ps ≠ [] → qs ≠ [] → (∀ p ∈ ps, NoB c p) → (∀ q ∈ qs, NoB c q) → joinB c qs = joinB c ps ++ c :: R → ∃ qs', qs = ps ++ qs' ∧ qs' ≠ []
  | [], _, _, h, _, _, _, _ => absurd rfl h
  | _, [], _, _, h, _, _, _ => absurd rfl h
  | [p], [q], R, _, _, _, hq, h => by
    have h : q.data.toList = p.data.toList ++ c :: R := h
    exact absurd (show c ∈ q.data.toList by rw [h]; simp) (hq q (by simp))
  | [p], q :: q1 :: r, R, _, _, hp, hq, h => by
    have h : q.data.toList ++ c :: joinB c (q1 :: r) = p.data.toList ++ c :: R := h
    obtain ⟨e1, _⟩ := first_inj (hq q (by simp)) (hp p (by simp)) h
    exact ⟨q1 :: r, by rw [ba_ext e1]; rfl, by simp⟩
  | p :: p1 :: t, [q], R, _, _, _, hq, h => by
    have h : q.data.toList = (p.data.toList ++ c :: joinB c (p1 :: t)) ++ c :: R := h
    exact absurd (show c ∈ q.data.toList by rw [h]; simp) (hq q (by simp))
  | p :: p1 :: t, q :: q1 :: r, R, _, _, hp, hq, h => by
    have h : q.data.toList ++ c :: joinB c (q1 :: r) = (p.data.toList ++ c :: joinB c (p1 :: t)) ++ c :: R := h
    rw [List.append_assoc, List.cons_append] at h
    obtain ⟨e1, e2⟩ := first_inj (hq q (by simp)) (hp p (by simp)) h
    obtain ⟨qs', h1, h2⟩ := join_prefix (by simp) (by simp) (fun x hx => hp x (List.mem_cons_of_mem _ hx)) (fun x hx => hq x (List.mem_cons_of_mem _ hx)) e2
    exact ⟨qs', by rw [h1, ba_ext e1]; rfl, h2⟩
theorem join_last {c d : UInt8} {x y : ByteArray} (h : y.data.toList = x.data.toList ++ [d]) : ∀ (l : List ByteArray), joinB c (l ++ [y]) = joinB c (l ++ [x]) ++ [d] := by
  intro l
  by_cases hl : l = []
  · subst hl; exact h
  · rw [joinB_snoc hl, joinB_snoc hl, h]; simp
theorem ext_step {s : ByteArray} {f i : Nat} (hf : f ≤ i) (hi : i < s.size) : (s.extract f (i + 1)).data.toList = (s.extract f i).data.toList ++ [s[i]] := by
  have hs : s.data.toList.length = s.size := Array.length_toList (xs := s.data)
  rw [Lib.extract_data, Lib.extract_data, show i + 1 - f = (i - f) + 1 by omega, List.take_succ_eq_append_getElem (by rw [List.length_drop]; omega)]
  congr 1
  have : (s.data.toList.drop f)[i - f]'(by rw [List.length_drop]; omega) = s.data.toList[i] := by
    rw [List.getElem_drop]
    congr 1
    omega
  rw [this]
  rfl
theorem ext_none (s : ByteArray) (i : Nat) : (s.extract i i).data.toList = [] := by rw [Lib.extract_data]; simp
/-- how the reference's loop stands: the names so far, where the next one begins, where it reads -/
structure RP (s : ByteArray) (l : List ByteArray) (f i : Nat) : Prop where
  names : ∀ n ∈ l, NameOk n
  len : l.length ≤ 8
  ord : f ≤ i ∧ i ≤ s.size
  no : NoB 47 (s.extract f i)
  text : 47 :: joinB 47 (l ++ [s.extract f i]) = s.data.toList.take i
theorem RP.noB {s : ByteArray} {l : List ByteArray} {f i : Nat} (h : RP s l f i) : ∀ p ∈ l ++ [s.extract f i], NoB 47 p := fun p hp => by
  rcases List.mem_append.1 hp with hp | hp
  · exact (h.names p hp).noB.1
  · rw [List.mem_singleton.1 hp]; exact h.no
theorem RP.start {s : ByteArray} {r : List UInt8} (h : s.data.toList = 47 :: r) : RP s [] 1 1 := by
  have hs : s.data.toList.length = s.size := Array.length_toList (xs := s.data)
  refine ⟨by simp, by simp, ⟨Nat.le_refl _, by rw [← hs, h]; simp⟩, by unfold NoB; rw [ext_none]; simp, ?_⟩
  show 47 :: (s.extract 1 1).data.toList = _
  rw [ext_none, h]; rfl
theorem RP.go {s : ByteArray} {l : List ByteArray} {f i : Nat} (h : RP s l f i) (hi : i < s.size) (hb : s[i] ≠ 47) : RP s l f (i + 1) := by
  have hs : s.data.toList.length = s.size := Array.length_toList (xs := s.data)
  have he := ext_step h.ord.1 hi
  refine ⟨h.names, h.len, ⟨by have := h.ord.1; omega, hi⟩, fun hm => ?_, ?_⟩
  · rw [he] at hm
    rcases List.mem_append.1 hm with hm | hm
    · exact h.no hm
    · exact hb (List.mem_singleton.1 hm).symm
  · rw [join_last he, ← List.cons_append, h.text, List.take_succ_eq_append_getElem (by omega)]
    rfl
theorem RP.cut {s : ByteArray} {l : List ByteArray} {f i : Nat} (h : RP s l f i) (hi : i < s.size) (hb : s[i] = 47) (hn : NameOk (s.extract f i)) (hl : l.length ≠ 8) : RP s (l ++ [s.extract f i]) (i + 1) (i + 1) := by
  have hs : s.data.toList.length = s.size := Array.length_toList (xs := s.data)
  refine ⟨fun n hm => ?_, by have := h.len; simp; omega, ⟨Nat.le_refl _, hi⟩, by unfold NoB; rw [ext_none]; simp, ?_⟩
  · rcases List.mem_append.1 hm with hm | hm
    · exact h.names n hm
    · rw [List.mem_singleton.1 hm]; exact hn
  · rw [joinB_snoc (by simp), ext_none, ← List.cons_append, h.text, List.take_succ_eq_append_getElem (by omega)]
    congr 2
    exact hb.symm
theorem path_join {s : ByteArray} {m : List ByteArray} (h : IsPath s m) (h1 : s.data.toList ≠ [47]) : m ≠ [] ∧ s.data.toList = 47 :: joinB 47 m := by
  rcases h.2.2 with ⟨_, e⟩ | h
  · exact absurd e h1
  · exact h
theorem RP.bad {s : ByteArray} {l : List ByteArray} {f i : Nat} (h : RP s l f i) (h1 : s.data.toList ≠ [47]) (hi : i = s.size ∨ ∃ hi : i < s.size, s[i] = 47) (hb : ¬ NameOk (s.extract f i) ∨ l.length = 8) (m : List ByteArray) : ¬ IsPath s m := by
  intro hp
  obtain ⟨hm, e⟩ := path_join hp h1
  have hs : s.data.toList.length = s.size := Array.length_toList (xs := s.data)
  have key : ∃ m', m = (l ++ [s.extract f i]) ++ m' := by
    rcases hi with rfl | ⟨hi, hb⟩
    · have ht := h.text
      rw [List.take_of_length_le (by omega), e] at ht
      have := joinB_inj (by simp) hm h.noB (fun q hq => (hp.1 q hq).noB.1) (List.cons.inj ht).2
      exact ⟨[], by rw [List.append_nil, this]⟩
    · have ht := h.text
      have hd : s.data.toList = s.data.toList.take i ++ 47 :: s.data.toList.drop (i + 1) := by
        have he : s.data.toList[i]'(by omega) = 47 := hb
        rw [← he, ← List.drop_eq_getElem_cons (by omega), List.take_append_drop]
      rw [← ht, e, List.cons_append] at hd
      obtain ⟨m', h2, _⟩ := join_prefix (by simp) hm h.noB (fun q hq => (hp.1 q hq).noB.1) (List.cons.inj hd).2
      exact ⟨m', h2⟩
  obtain ⟨m', rfl⟩ := key
  rcases hb with hb | hb
  · exact hb (hp.1 _ (by simp))
  · have := hp.2.1
    simp at this
    omega
theorem RP.last {s : ByteArray} {l : List ByteArray} {f : Nat} (h : RP s l f s.size) (hn : NameOk (s.extract f s.size)) (hl : l.length ≠ 8) : IsPath s (l ++ [s.extract f s.size]) := by
  have hs : s.data.toList.length = s.size := Array.length_toList (xs := s.data)
  refine ⟨fun n hm => ?_, by have := h.len; simp; omega, .inr ⟨by simp, ?_⟩⟩
  · rcases List.mem_append.1 hm with hm | hm
    · exact h.names n hm
    · rw [List.mem_singleton.1 hm]; exact hn
  · rw [h.text, List.take_of_length_le (by omega)]
/-- what the reference's Path answers -/
def RPathE (s : ByteArray) (e : Ending) (w' : World) : Prop :=
  (∃ l v, IsPath s l ∧ e = .returned (.tuple #[v, .int .i64 0]) ∧ TextsAt w' v l) ∨ ((∀ l, ¬ IsPath s l) ∧ e = .returned (.tuple #[.slice none 0 0, .int .i64 130]))
theorem owns_none (w : World) {B : Nat} (hB : B ≤ w.heap.size) (t : TypeId) : (w.alloc (.cells #[] t)).ownsRow B t 1 (.slice (some ⟨w.heap.size, 0, none⟩) 0 0) 0 [] :=
  ⟨rfl, .inr ⟨w.heap.size, 0, #[], rfl, hB, heap_alloc_new _ _, Nat.le_refl _, by unfold maxLen; omega, rfl, rfl⟩⟩
set_option maxRecDepth 100000 in
set_option maxHeartbeats 8000000 in
theorem rpath_any (s : ByteArray) (hs : s.size ≤ 281474976710656) (w : World) :
    Calls Tryz.prog 51 #[.string s] w fun e w' => RPathE s e w' ∧ Below w.heap.size w w' := by
  obtain ⟨w1, hw1⟩ : ∃ w1, w.alloc (.cells #[] 9) = w1 := ⟨_, rfl⟩
  have hB1 : Below w.heap.size w w1 := by rw [← hw1]; exact (Below.refl _ w).alloc (Nat.le_refl _) _
  have hr1 : w1.ownsRow w.heap.size 9 1 (.slice (some ⟨w.heap.size, 0, none⟩) 0 0) 0 [] := by rw [← hw1]; exact owns_none w (Nat.le_refl _) _
  have HB1 := Lib.hid hB1
  have HR1 := Lib.hid hr1
  clear hB1 hr1
  by_cases h0 : s.toList = [47]
  · have b0 : (s.toList == [47]) = true := beq_iff_eq.2 h0
    have HE := Lib.hid (show IsPath s [] from ⟨by simp, by simp, .inl ⟨rfl, by rw [← toList_eq, h0]⟩⟩)
    clear h0
    go_enter Tryz.func51, Tryz.ntmps51
    go_wp2
    go_ret2
    exact ⟨.inl ⟨[], _, HE.out, rfl, ⟨_, 0, rfl, fun h => absurd rfl h⟩⟩, HB1.out⟩
  · have b0 : (s.toList == [47]) = false := beq_eq_false_iff_ne.2 h0
    rw [toList_eq] at h0
    have H0 := Lib.hid h0
    by_cases h1 : s.size = 0
    · have hl : s.data.toList = [] := List.eq_nil_of_length_eq_zero (by rw [len_of]; exact h1)
      have b1 : s.toList.isEmpty = true := by rw [toList_eq, hl]; rfl
      have HE := Lib.hid (show ∀ l, ¬ IsPath s l from fun l h => by
        obtain ⟨_, e⟩ := path_join h H0.out
        rw [hl] at e; cases e)
      have hz : (s.size : Int) = 0 := by omega
      clear h0 h1 hl
      go_enter Tryz.func51, Tryz.ntmps51
      go_wp2
      go_ret2
      exact ⟨.inr ⟨HE.out, rfl⟩, HB1.out⟩
    · have hpos : 0 < s.size := by omega
      have hposi : (0 : Int) < (s.size : Int) := by omega
      have b1 : s.toList.isEmpty = false := by
        rw [toList_eq]
        cases h : s.data.toList with
        | nil => rw [← len_of, h] at h1; exact absurd rfl h1
        | cons _ _ => rfl
      by_cases h2 : s[0] = 47
      · have b2 : ((s[0].toNat : Int) != 47) = false := by rw [h2]; rfl
        have HS := Lib.hid (show RP s [] 1 1 from by
          have hl : s.data.toList = s[0] :: s.data.toList.drop 1 := by
            have := List.drop_eq_getElem_cons (l := s.data.toList) (i := 0) (by rw [len_of]; exact hpos)
            rw [List.drop_zero] at this
            exact this
          exact RP.start (by rw [hl, h2]))
        obtain ⟨i0, hi, hz0, hz1, hz2⟩ := info_parts info9
        have hsz1 := HB1.out.size
        have HR1' := Lib.hid (show w1.ownsRow w.heap.size 9 1 (.slice (some ⟨w.heap.size, 0, none⟩) 0 0) ([] : List ByteArray).length (strVs []) from HR1.out)
        clear h0 h1 h2
        go_enter Tryz.func51, Tryz.ntmps51
        go_wp2
        clear b2 hw1
        go_loopw [4, 5, 6] (fun v f i wr => ∃ (l : List ByteArray) (a b : Nat), f = .int .i64 a ∧ i = .int .i64 b ∧ b ≤ s.size + 1 ∧ a ≤ s.size + 1 ∧ l.length ≤ 8 ∧ Hid (wr.ownsRow w.heap.size 9 1 v l.length (strVs l)) ∧ Hid (Below w.heap.size w wr) ∧ Hid ((b ≤ s.size → RP s l a b) ∧ (b = s.size + 1 → IsPath s l))) (fun _ _ i _ => s.size + 1 - (intOf i).toNat)
        case atStart => exact ⟨[], 1, 1, rfl, rfl, by omega, by omega, by simp, HR1', HB1, Lib.hid ⟨fun _ => HS.out, fun h => absurd h (by omega)⟩⟩
        case round =>
          obtain ⟨l, a, b, rfl, rfl, hb, ha, hl8, HR, HB, HP⟩ := hrel
          obtain ⟨n, hn⟩ : ∃ n, l.length = n := ⟨_, rfl⟩
          obtain ⟨ad, cap, rfl⟩ : ∃ ad cap, u4 = .slice ad n cap := by
            rcases HR.out.2 with ⟨e, e2⟩ | ⟨g, cap, cur, e, _⟩
            · exact ⟨none, 0, by rw [e, ← hn, e2]⟩
            · exact ⟨_, cap, by rw [e, hn]⟩
          by_cases hle : b ≤ s.size
          · have hlei : (b : Int) ≤ (s.size : Int) := by omega
            have HRP := Lib.hid (HP.out.1 hle)
            obtain ⟨ho1, _⟩ := HRP.out.ord
            by_cases hlt : b < s.size
            · have hlti : (b : Int) < (s.size : Int) := by omega
              by_cases hc : s[b] = 47
              · have b2 : ((s[b].toNat : Int) != 47) = false := by rw [hc]; rfl
                have hX16 : True := trivial
                obtain ⟨X, hX⟩ : ∃ X, s.extract a b = X := ⟨_, rfl⟩
                have hXs : X.size ≤ 281474976710656 := by rw [← hX, ByteArray.size_extract]; omega
                have CN := fun w => rname_any X hXs w
                have hszr := HB.out.size
                have hab : (a : Int) ≤ (b : Int) := by omega
                have ha0 : (0 : Int) ≤ (a : Int) := by omega
                have hex : s.extract ((a : Int).toNat) ((b : Int).toNat) = X := hX
                have hBad := Lib.hid (fun (h : ¬ NameOk X ∨ l.length = 8) => HRP.out.bad H0.out (.inr ⟨hlt, hc⟩) (by rw [hX]; exact h))
                have hGood := Lib.hid (fun (h : NameOk X) (h8 : l.length ≠ 8) => (hX ▸ HRP.out.cut hlt hc (hX.symm ▸ h) h8 : RP s (l ++ [X]) (b + 1) (b + 1)))
                clear hc
                by_cases hnm : NameOk X
                · rw [nameB_yes hnm] at CN
                  by_cases h8 : l.length = 8
                  · have HE := Lib.hid (hBad.out (.inr h8))
                    have hl8i : ((l.length : Int) == 8) = true := by rw [h8]; rfl
                    rw [hn] at hl8i
                    clear hnm h8
                    go_wp2_with (refine (CN _).mono ?_; rintro e w' ⟨rfl, rfl⟩)
                    go_ret2
                    exact ⟨.inr ⟨HE.out, rfl⟩, HB.out⟩
                  · have HE := Lib.hid (hGood.out hnm h8)
                    have h9 : l.length + 1 ≤ 8 := by omega
                    have hl8i : ((l.length : Int) == 8) = false := beq_eq_false_iff_ne.2 (by omega)
                    rw [hn] at hl8i
                    clear hnm h8
                    go_wp2_with fail
                    refine (CN _).mono ?_
                    rintro e w' ⟨rfl, rfl⟩
                    go_wp2_with (at_builtin; go_loud (refine wpList_append_own _ rfl _ _ 45 rfl w.heap.size 9 i0 (.string ⟨#[]⟩) 1 16 Tryz.underlying45 hi hz0 hz1 hz2 rfl (by decide) _ _ _ rfl (HR.out.alloc _) ⟨wr.heap.size, 0, none⟩ 1 1 [.string X] rfl rfl (cell_one_made _ _ _) (by simp [Value.oneCell']) (by unfold maxLen; omega) (by omega) (Nat.le_trans hszr (by simp)) ?_; intro v' w5 hown' hgrow _; have HB5 := Lib.hid (HB.out.trans (((Below.refl _ wr).alloc hszr _).grown hgrow (by simp; omega) (fun j ej => (HR.out.lt j ej).1))); have HO := Lib.hid hown'; clear hown' hgrow))
                    go_roundw
                    case rel => exact ⟨l ++ [X], b + 1, b + 1, by go_num, by go_num, by omega, by omega, by simp; omega, Lib.hid (by rw [List.length_append, strVs_snoc]; exact HO.out), HB5, Lib.hid ⟨fun _ => HE.out, fun h => absurd h (by omega)⟩⟩
                    case measure => simp [intOf]; omega
                · rw [nameB_no hnm] at CN
                  have HE := Lib.hid (hBad.out (.inl hnm))
                  clear hnm
                  go_wp2_with (refine (CN _).mono ?_; rintro e w' ⟨rfl, rfl⟩)
                  go_ret2
                  exact ⟨.inr ⟨HE.out, rfl⟩, HB.out⟩
              · have b2 : ((s[b].toNat : Int) != 47) = true := bne_iff_ne.2 (fun e => hc (UInt8.toNat_inj.1 (by simpa using Int.ofNat_inj.1 e)))
                have HS2 := Lib.hid (HRP.out.go hlt hc)
                clear hc
                go_wp2
                go_roundw
                case rel => exact ⟨l, a, b + 1, rfl, by go_num, by omega, ha, hl8, HR, HB, Lib.hid ⟨fun _ => HS2.out, fun h => absurd h (by omega)⟩⟩
                case measure => simp [intOf]; omega
            · have hbe : b = s.size := by omega
              have hlti : ¬ (b : Int) < (s.size : Int) := by omega
              have hX16 : True := trivial
              obtain ⟨X, hX⟩ : ∃ X, s.extract a b = X := ⟨_, rfl⟩
              have hXs : X.size ≤ 281474976710656 := by rw [← hX, ByteArray.size_extract]; omega
              have CN := fun w => rname_any X hXs w
              have hszr := HB.out.size
              have hab : (a : Int) ≤ (b : Int) := by omega
              have ha0 : (0 : Int) ≤ (a : Int) := by omega
              have hex : s.extract ((a : Int).toNat) ((b : Int).toNat) = X := hX
              have hBad := Lib.hid (fun (h : ¬ NameOk X ∨ l.length = 8) => HRP.out.bad H0.out (.inl hbe) (by rw [hX]; exact h))
              have hGood := Lib.hid (fun (h : NameOk X) (h8 : l.length ≠ 8) => (by subst hbe; rw [← hX]; exact HRP.out.last (by rw [hX]; exact h) h8 : IsPath s (l ++ [X])))
              clear hX16 hbe
              by_cases hnm : NameOk X
              · rw [nameB_yes hnm] at CN
                by_cases h8 : l.length = 8
                · have HE := Lib.hid (hBad.out (.inr h8))
                  have hl8i : ((l.length : Int) == 8) = true := by rw [h8]; rfl
                  rw [hn] at hl8i
                  clear hnm h8
                  go_wp2_with (refine (CN _).mono ?_; rintro e w' ⟨rfl, rfl⟩)
                  go_ret2
                  exact ⟨.inr ⟨HE.out, rfl⟩, HB.out⟩
                · have HE := Lib.hid (hGood.out hnm h8)
                  have h9 : l.length + 1 ≤ 8 := by omega
                  have hl8i : ((l.length : Int) == 8) = false := beq_eq_false_iff_ne.2 (by omega)
                  rw [hn] at hl8i
                  clear hnm h8
                  go_wp2_with fail
                  refine (CN _).mono ?_
                  rintro e w' ⟨rfl, rfl⟩
                  go_wp2_with (at_builtin; go_loud (refine wpList_append_own _ rfl _ _ 45 rfl w.heap.size 9 i0 (.string ⟨#[]⟩) 1 16 Tryz.underlying45 hi hz0 hz1 hz2 rfl (by decide) _ _ _ rfl (HR.out.alloc _) ⟨wr.heap.size, 0, none⟩ 1 1 [.string X] rfl rfl (cell_one_made _ _ _) (by simp [Value.oneCell']) (by unfold maxLen; omega) (by omega) (Nat.le_trans hszr (by simp)) ?_; intro v' w5 hown' hgrow _; have HB5 := Lib.hid (HB.out.trans (((Below.refl _ wr).alloc hszr _).grown hgrow (by simp; omega) (fun j ej => (HR.out.lt j ej).1))); have HO := Lib.hid hown'; clear hown' hgrow))
                  go_roundw
                  case rel => exact ⟨l ++ [X], b + 1, b + 1, by go_num, by go_num, by omega, by omega, by simp; omega, Lib.hid (by rw [List.length_append, strVs_snoc]; exact HO.out), HB5, Lib.hid ⟨fun h => absurd h (by omega), fun _ => HE.out⟩⟩
                  case measure => simp [intOf]; omega
              · rw [nameB_no hnm] at CN
                have HE := Lib.hid (hBad.out (.inl hnm))
                clear hnm
                go_wp2_with (refine (CN _).mono ?_; rintro e w' ⟨rfl, rfl⟩)
                go_ret2
                exact ⟨.inr ⟨HE.out, rfl⟩, HB.out⟩
          · have hbe : b = s.size + 1 := by omega
            have hlei : ¬ (b : Int) ≤ (s.size : Int) := by omega
            have HE := Lib.hid (HP.out.2 hbe)
            clear hbe
            have HT := Lib.hid (texts_of_row HR.out)
            go_wp2
            go_ret2
            exact ⟨.inl ⟨l, _, HE.out, rfl, HT.out⟩, HB.out⟩
      · have b2 : ((s[0].toNat : Int) != 47) = true := bne_iff_ne.2 (fun e => h2 (UInt8.toNat_inj.1 (by simpa using Int.ofNat_inj.1 e)))
        have HE := Lib.hid (show ∀ l, ¬ IsPath s l from fun l h => by
          obtain ⟨_, e⟩ := path_join h H0.out
          have hl : s.data.toList = s[0] :: s.data.toList.drop 1 := by
            have := List.drop_eq_getElem_cons (l := s.data.toList) (i := 0) (by rw [len_of]; exact hpos)
            rw [List.drop_zero] at this
            exact this
          rw [hl] at e
          exact h2 (List.cons.inj e).1)
        clear h0 h1 h2
        go_enter Tryz.func51, Tryz.ntmps51
        go_wp2
        go_ret2
        exact ⟨.inr ⟨HE.out, rfl⟩, HB1.out⟩
end Go.Proofs.YtfncoojpommfcaaGreatDoor

