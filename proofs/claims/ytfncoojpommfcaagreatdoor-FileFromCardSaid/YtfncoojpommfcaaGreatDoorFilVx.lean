/-
  What single commands make of single trees: on values.
-/
import Derived.Test.YtfncoojpommfcaaGreatDoorFilEq
import Derived.Test.YtfncoojpommfcaaGreatDoorFilR
import Derived.Test.YtfncoojpommfcaaGreatDoorFilT
import Derived.Test.YtfncoojpommfcaaGreatDoorC4
namespace Go.Proofs.YtfncoojpommfcaaGreatDoor
open Go.RowKit Go Go.Maps

section
variable {T : List Nod} {s u : ByteArray} {l m : List ByteArray}
theorem doV_make (h : IsPath s l) : doV T ⟨0, s, ⟨#[]⟩, 0, ⟨#[]⟩⟩ = makeV T l false := by
  rw [doV_kind (k := 0) (by omega) rfl ⟨⟨l, h⟩, rfl, rfl, rfl⟩, namesOf_is h]; rfl
theorem doV_write (h : IsPath s l) {a : Int} {d : ByteArray} (h0 : 0 ≤ a) (h1 : a ≤ 16384) (hd : d.size ≤ 512) : doV T ⟨2, s, ⟨#[]⟩, a, d⟩ = writeV T l a d := by
  rw [doV_kind (k := 2) (by omega) rfl ⟨⟨l, h⟩, rfl, ⟨h0, h1⟩, hd⟩, namesOf_is h]; rfl
theorem doV_cut (h : IsPath s l) {a : Int} (h0 : 0 ≤ a) (h1 : a ≤ 16384) : doV T ⟨3, s, ⟨#[]⟩, a, ⟨#[]⟩⟩ = cutV T l a := by
  rw [doV_kind (k := 3) (by omega) rfl ⟨⟨l, h⟩, rfl, ⟨h0, h1⟩, rfl⟩, namesOf_is h]; rfl
theorem doV_link (h : IsPath s l) (k : IsPath u m) : doV T ⟨4, s, u, 0, ⟨#[]⟩⟩ = linkV T l m := by
  rw [doV_kind (k := 4) (by omega) rfl ⟨⟨l, h⟩, ⟨m, k⟩, rfl, rfl⟩, namesOf_is h, namesOf_is k]; rfl
theorem doV_remove (h : IsPath s l) : doV T ⟨6, s, ⟨#[]⟩, 0, ⟨#[]⟩⟩ = removeV T l := by
  rw [doV_kind (k := 6) (by omega) rfl ⟨⟨l, h⟩, rfl, rfl, rfl⟩, namesOf_is h]; rfl
theorem doV_snap (s : ByteArray) : doV T ⟨7, s, ⟨#[]⟩, 0, ⟨#[]⟩⟩ = (T, 1) := by
  unfold doV
  split
  · rfl
  · simp
theorem readV_yes (h : IsPath s l) {x : Nod} (hf : fileE T l = .ok x) {a n : Int} (ha : 0 ≤ a) (hn : 0 ≤ n) : readV T s a n = (piece x.data a.toNat n.toNat, 0) := by
  obtain ⟨h1, hd⟩ := fileE_ok hf
  obtain ⟨h2, h3⟩ := findE_ok h1
  unfold readV fileR
  rw [findR_yes h, h2]
  simp only
  rw [if_neg (by rw [(isDir_at h3).1, hd]; simp)]
  simp only [h3]
  rw [if_neg (by omega)]
theorem getV_yes (h : IsPath s l) {x : Nod} (hf : findE T l = .ok x) : getV T s = (told x, 0) := by
  obtain ⟨h2, h3⟩ := findE_ok hf
  unfold getV
  rw [findR_yes h, h2]
  simp only [h3]
theorem getV_no (h : ∀ l, ¬ IsPath s l) : getV T s = (zeroN, 140) := by
  unfold getV
  rw [findR_no h]
theorem listV_yes (h : IsPath s l) {x : Nod} (hf : findE T l = .ok x) (hd : x.dir = true) : listV T s = .ok (x.names.map Ent.name) := by
  obtain ⟨h2, h3⟩ := findE_ok hf
  unfold listV
  rw [findR_yes h, h2]
  simp only [h3, hd, if_true]
end
/-! ### The calls that every statement makes -/
def nmA : ByteArray := ⟨#[97]⟩
def nmB : ByteArray := ⟨#[98]⟩
theorem fpathA : IsPath ⟨#[47, 97]⟩ [nmA] := ⟨by unfold NameOk nmA; decide, by decide, .inr ⟨by simp, rfl⟩⟩
theorem fpathB : IsPath ⟨#[47, 98]⟩ [nmB] := ⟨by unfold NameOk nmB; decide, by decide, .inr ⟨by simp, rfl⟩⟩
theorem fpathNo : ∀ l, ¬ IsPath ⟨#[98]⟩ l := fun l h => by
  rcases h.2.2 with ⟨_, h⟩ | ⟨_, h⟩ <;> cases h
def fxA : List Nod := [⟨1, true, 1, ⟨#[]⟩, [⟨nmA, 2⟩]⟩, ⟨2, false, 1, ⟨#[]⟩, []⟩]
def fxB : List Nod := [⟨1, true, 1, ⟨#[]⟩, [⟨nmA, 2⟩, ⟨nmB, 2⟩]⟩, ⟨2, false, 2, ⟨#[]⟩, []⟩]
def fxC : List Nod := [⟨1, true, 1, ⟨#[]⟩, [⟨nmA, 2⟩, ⟨nmB, 2⟩]⟩, ⟨2, false, 2, ⟨#[120]⟩, []⟩]
def fxD : List Nod := [⟨1, true, 1, ⟨#[]⟩, [⟨nmB, 2⟩]⟩, ⟨2, false, 1, ⟨#[120]⟩, []⟩]
theorem fx1 : doV newT ⟨0, ⟨#[47, 97]⟩, ⟨#[]⟩, 0, ⟨#[]⟩⟩ = (fxA, 0) := by rw [doV_make fpathA]; rfl
theorem fx2 : doV fxA ⟨4, ⟨#[47, 97]⟩, ⟨#[47, 98]⟩, 0, ⟨#[]⟩⟩ = (fxB, 0) := by rw [doV_link fpathA fpathB]; kernel_rfl
theorem fx3 : doV fxB ⟨2, ⟨#[47, 98]⟩, ⟨#[]⟩, 0, ⟨#[120]⟩⟩ = (fxC, 0) := by rw [doV_write fpathB (by decide) (by decide) (by decide)]; rfl
theorem fx4 : readV fxC ⟨#[47, 97]⟩ 0 9 = (⟨#[120]⟩, 0) := by rw [readV_yes fpathA (x := ⟨2, false, 2, ⟨#[120]⟩, []⟩) rfl (by decide) (by decide)]; rfl
theorem fx5 : doV fxC ⟨6, ⟨#[47, 97]⟩, ⟨#[]⟩, 0, ⟨#[]⟩⟩ = (fxD, 0) := by rw [doV_remove fpathA]; rfl
theorem fx6 : getV fxD ⟨#[47, 98]⟩ = (⟨2, false, 1, ⟨#[120]⟩⟩, 0) := by rw [getV_yes fpathB (x := ⟨2, false, 1, ⟨#[120]⟩, []⟩) rfl]; rfl
theorem fx7 : listV fxD ⟨#[47]⟩ = .ok [nmB] := by rw [listV_yes .root (x := ⟨1, true, 1, ⟨#[]⟩, [⟨nmB, 2⟩]⟩) rfl rfl]; rfl
theorem fx8 : doV fxD ⟨7, ⟨#[115]⟩, ⟨#[]⟩, 0, ⟨#[]⟩⟩ = (fxD, 1) := doV_snap _
theorem fx9 : getV fxD ⟨#[98]⟩ = (zeroN, 140) := getV_no fpathNo
theorem fx_none : ∀ T, Good T → tolds T ≠ [] := fun T h e => by
  obtain ⟨r, hr, _⟩ := h.formed.root
  have := (at_mem hr).1
  unfold tolds at e
  rw [List.map_eq_nil_iff] at e
  rw [e] at this; cases this
theorem fxA_good : Good fxA := by have := good_new.does ⟨0, ⟨#[47, 97]⟩, ⟨#[]⟩, 0, ⟨#[]⟩⟩; rw [fx1] at this; exact this
theorem fxB_good : Good fxB := by have := fxA_good.does ⟨4, ⟨#[47, 97]⟩, ⟨#[47, 98]⟩, 0, ⟨#[]⟩⟩; rw [fx2] at this; exact this
theorem fxC_good : Good fxC := by have := fxB_good.does ⟨2, ⟨#[47, 98]⟩, ⟨#[]⟩, 0, ⟨#[120]⟩⟩; rw [fx3] at this; exact this
theorem fxD_good : Good fxD := by have := fxC_good.does ⟨6, ⟨#[47, 97]⟩, ⟨#[]⟩, 0, ⟨#[]⟩⟩; rw [fx5] at this; exact this

/-- Do, with a short command -/
theorem do_short {w : World} {B b : Nat} {F : Nat → Prop} {T : List Nod} (h : TreeIs B F b T w) (hG : Good T) (c : Cmd) (hc : CmdIn c) (hl : c.path.size + c.dest.size ≤ 100000000) (hg : GE w) :
    Calls Tryz.prog 14 #[.pointer (some ⟨b, 0, none⟩), cmdV c] w fun e w' => e = .returned (.int .i64 (doV T c).2) ∧ LeftT B F b (doV T c).1 w w' :=
  do_any h hG c hc (fun k hk hd => Nat.le_trans (line_le hk hc.place hd) (by omega)) hg
end Go.Proofs.YtfncoojpommfcaaGreatDoor

