/-
  A field is read from a word.
-/
import Derived.Test.YtmloljjllmmkoaaDoorCmdC
namespace Go.Proofs.YtmloljjllmmkoaaDoor
open Go.RowKit Go
set_option maxRecDepth 100000 in
set_option maxHeartbeats 2000000 in
theorem fldRead_any (f : Fld) (c : Cmd) (b : Nat) (s : ByteArray) (hs : s.size ≤ 281474976710656) (w : World) (hat : CmdAt c b w) (hg : GE w) :
    Calls Tryd.prog 38 #[.int .i64 (fldN f), .pointer (some ⟨b, 0, none⟩), .string s] w fun e w' => FldE s c f b e w' ∧ Stir (fun i => i = b) w w' := by
  have CP := path_any s hs w
  have CN := name_any s hs w
  have CA := readAt_any s hs w hg
  have CD := readData_any s w
  have HA := Lib.hid hat
  clear hat hg
  cases f with
  | path =>
    show Calls _ _ #[.int .i64 0, _, _] w _
    go_enter Tryd.func38, Tryd.ntmps38
    go_wp2_with fail
    refine CP.mono ?_
    rintro e w1 ⟨hp, hB1⟩
    rcases hp with ⟨l, v, hl, rfl, _⟩ | ⟨hno, rfl⟩
    · have HL := Lib.hid (show PathOk s from ⟨l, hl⟩)
      clear hl
      have HS := Lib.hid (show Stir (fun i => i = b) w w1 from Stir.of_below hB1)
      have hat1 := HA.out.later hB1
      obtain ⟨c0, c1, c2, c3, c4⟩ := hat1.cells
      have hf := hat1.fr 1
      have HA1 := Lib.hid hat1
      clear CP CN CA CD hat1 hB1
      go_wp2
      go_ret
      exact ⟨.inl ⟨_, ⟨HL.out, rfl⟩, rfl, cmd_set1 HA1.out _⟩, HS.out.set (.inl rfl) _⟩
    · have HL := Lib.hid (show ¬ PathOk s from fun ⟨l, h⟩ => hno l h)
      clear hno
      have HS := Lib.hid (show Stir (fun i => i = b) w w1 from Stir.of_below hB1)
      have hat1 := HA.out.later hB1
      obtain ⟨c0, c1, c2, c3, c4⟩ := hat1.cells
      have hf := hat1.fr 1
      have HA1 := Lib.hid hat1
      clear CP CN CA CD hat1 hB1
      go_wp2
      go_ret
      exact ⟨.inr ⟨fun d k => HL.out k.1, rfl, _, cmd_set1 HA1.out _⟩, HS.out.set (.inl rfl) _⟩
  | name =>
    show Calls _ _ #[.int .i64 1, _, _] w _
    go_enter Tryd.func38, Tryd.ntmps38
    obtain ⟨c0, c1, c2, c3, c4⟩ := HA.out.cells
    have hf := HA.out.fr 1
    clear CP CA CD
    by_cases hn : NameOk s
    · rw [nameB_yes hn] at CN
      have HL := Lib.hid hn
      clear hn
      go_wp2_with (refine CN.mono ?_; rintro e w' ⟨rfl, rfl⟩)
      go_ret
      exact ⟨.inl ⟨_, ⟨HL.out, rfl⟩, rfl, cmd_set1 HA.out _⟩, (Stir.refl (fun i => i = b) w).set (.inl rfl) _⟩
    · rw [nameB_no hn] at CN
      have HL := Lib.hid hn
      clear hn
      go_wp2_with (refine CN.mono ?_; rintro e w' ⟨rfl, rfl⟩)
      go_ret
      exact ⟨.inr ⟨fun d k => HL.out k.1, rfl, _, cmd_set1 HA.out _⟩, (Stir.refl (fun i => i = b) w).set (.inl rfl) _⟩
  | dest =>
    show Calls _ _ #[.int .i64 2, _, _] w _
    go_enter Tryd.func38, Tryd.ntmps38
    go_wp2_with fail
    refine CP.mono ?_
    rintro e w1 ⟨hp, hB1⟩
    rcases hp with ⟨l, v, hl, rfl, _⟩ | ⟨hno, rfl⟩
    · have HL := Lib.hid (show PathOk s from ⟨l, hl⟩)
      clear hl
      have HS := Lib.hid (show Stir (fun i => i = b) w w1 from Stir.of_below hB1)
      have hat1 := HA.out.later hB1
      obtain ⟨c0, c1, c2, c3, c4⟩ := hat1.cells
      have hf := hat1.fr 2
      have HA1 := Lib.hid hat1
      clear CP CN CA CD hat1 hB1
      go_wp2
      go_ret
      exact ⟨.inl ⟨_, ⟨HL.out, rfl⟩, rfl, cmd_set2 HA1.out _⟩, HS.out.set (.inl rfl) _⟩
    · have HL := Lib.hid (show ¬ PathOk s from fun ⟨l, h⟩ => hno l h)
      clear hno
      have HS := Lib.hid (show Stir (fun i => i = b) w w1 from Stir.of_below hB1)
      have hat1 := HA.out.later hB1
      obtain ⟨c0, c1, c2, c3, c4⟩ := hat1.cells
      have hf := hat1.fr 2
      have HA1 := Lib.hid hat1
      clear CP CN CA CD hat1 hB1
      go_wp2
      go_ret
      exact ⟨.inr ⟨fun d k => HL.out k.1, rfl, _, cmd_set2 HA1.out _⟩, HS.out.set (.inl rfl) _⟩
  | place =>
    show Calls _ _ #[.int .i64 3, _, _] w _
    go_enter Tryd.func38, Tryd.ntmps38
    go_wp2_with fail
    refine CA.mono ?_
    rintro e w1 ⟨hp, hB1⟩
    obtain ⟨n, ok, rfl, hn⟩ := hp
    have HL := Lib.hid hn
    clear hn
    have HS := Lib.hid (show Stir (fun i => i = b) w w1 from Stir.of_below hB1)
    have hat1 := HA.out.later hB1
    obtain ⟨c0, c1, c2, c3, c4⟩ := hat1.cells
    have hf := hat1.fr 3
    have HA1 := Lib.hid hat1
    clear CP CN CA CD hat1 hB1
    go_wp2
    go_ret
    refine ⟨?_, HS.out.set (.inl rfl) _⟩
    rcases HL.out with ⟨rfl, h⟩ | ⟨rfl, h⟩
    · exact .inl ⟨_, ⟨n, h, rfl⟩, rfl, cmd_set3 HA1.out _⟩
    · exact .inr ⟨fun d ⟨m, k, _⟩ => h m k, rfl, _, cmd_set3 HA1.out _⟩
  | data =>
    show Calls _ _ #[.int .i64 4, _, _] w _
    go_enter Tryd.func38, Tryd.ntmps38
    go_wp2_with fail
    refine CD.mono ?_
    rintro e w1 ⟨hp, hB1⟩
    rcases hp with ⟨x, hx, rfl⟩ | ⟨hno, x, rfl⟩
    · have HL := Lib.hid hx
      clear hx
      have HS := Lib.hid (show Stir (fun i => i = b) w w1 from Stir.of_below hB1)
      have hat1 := HA.out.later hB1
      obtain ⟨c0, c1, c2, c3, c4⟩ := hat1.cells
      have hf := hat1.fr 4
      have HA1 := Lib.hid hat1
      clear CP CN CA CD hat1 hB1
      go_wp2
      go_ret
      exact ⟨.inl ⟨_, ⟨x, HL.out, rfl⟩, rfl, cmd_set4 HA1.out _⟩, HS.out.set (.inl rfl) _⟩
    · have HL := Lib.hid hno
      clear hno
      have HS := Lib.hid (show Stir (fun i => i = b) w w1 from Stir.of_below hB1)
      have hat1 := HA.out.later hB1
      obtain ⟨c0, c1, c2, c3, c4⟩ := hat1.cells
      have hf := hat1.fr 4
      have HA1 := Lib.hid hat1
      clear CP CN CA CD hat1 hB1
      go_wp2
      go_ret
      exact ⟨.inr ⟨fun d ⟨m, k, _⟩ => HL.out m k, rfl, _, cmd_set4 HA1.out _⟩, HS.out.set (.inl rfl) _⟩
end Go.Proofs.YtmloljjllmmkoaaDoor

