/-
  data.Text of a record of one Bool: bytes that are appended.
-/
import Derived.Test.YtmfijliladancaaGreatDoorXOwn
import Derived.Test.YtmfijliladancaaGreatDoorXBValid
import Derived.Test.YtmfijliladancaaGreatDoorXBTree
import Derived.Deep.RegionHeld3
import Derived.Deep.Cut
namespace Go.Proofs.YtmfijliladancaaGreatDoor
open Go.RowKit
/-- A row of bytes of the call's own. -/
abbrev BtR (w : World) (N : Nat) (v : Value) (l : List UInt8) : Prop := w.ownsRow N 5 1 v l.length (cellsOf l)
/-- Blocks that are not of bytes stand. -/
def StB (w w' : World) : Prop := ∀ (k : Nat) (cs : Array Value) (e : TypeId) (z : Nat × Nat), w.heap[k]? = some (.cells cs e z) → e ≠ 5 → w'.heap[k]? = some (.cells cs e z)
theorem StB.refl (w : World) : StB w w := fun _ _ _ _ h _ => h
theorem StB.trans {w w1 w2 : World} (h : StB w w1) (h' : StB w1 w2) : StB w w2 := fun k cs e z hk he => h' k cs e z (h k cs e z hk he) he
theorem StB.below {w w' : World} (h : Below w.heap.size w w') : StB w w' := fun _ _ _ _ hk _ => blk_keep h hk
theorem StB.grown {w w' : World} {N n : Nat} {v : Value} {xs : List Value} (hown : w.ownsRow N 5 1 v n xs) (hg : w.grownBy w' v.ownBlock) : StB w w' := fun _ _ _ _ hk he => ow_block hown hk he hg
/-- What an append leaves. -/
structure ApR (W : World) (N : Nat) (l : List UInt8) (b' : Value) (w' : World) : Prop where
  row : BtR w' N b' l
  old : Below N W w'
  st : StB W w'
theorem ApR.start {W : World} {N : Nat} {b : Value} {l : List UInt8} (h : BtR W N b l) : ApR W N l b W := ⟨h, Below.refl _ _, StB.refl _⟩
theorem ApR.next {W w w' : World} {N : Nat} {l : List UInt8} {b : Value} (h : ApR W N l b w) (hN : N ≤ W.heap.size) (hb : Below w.heap.size w w') : ApR W N l b w' := ⟨ow_kept h.row hb, h.old.trans (hb.mono (Nat.le_trans hN h.old.size)), h.st.trans (StB.below hb)⟩
theorem ApR.str {W w w' : World} {N : Nat} {l : List UInt8} {b b' : Value} {s : ByteArray} (h : ApR W N l b w) (hN : N ≤ W.heap.size) (hown : w'.ownsRow N 5 1 b' (l.length + s.size) (cellsOf l ++ Lib.strCells s)) (hg : w.grownBy w' b.ownBlock) : ApR W N (l ++ s.data.toList) b' w' := ⟨ow_str hown, below_grown h.old hN h.row hg, h.st.trans (StB.grown h.row hg)⟩
theorem ApR.one {W w w' : World} {N : Nat} {l : List UInt8} {b b' : Value} {c : UInt8} (h : ApR W N l b w) (hN : N ≤ W.heap.size) (hown : w'.ownsRow N 5 1 b' (l.length + 1) (cellsOf l ++ [.int .u8 c.toNat])) (hg : w.grownBy w' b.ownBlock) : ApR W N (l ++ [c]) b' w' := ⟨by show w'.ownsRow _ _ _ _ _ _; rw [ow_app, List.length_append]; exact hown, below_grown h.old hN h.row hg, h.st.trans (StB.grown h.row hg)⟩
theorem ApR.go {W w w' : World} {N : Nat} {l m : List UInt8} {b b' : Value} (h : ApR W N l b w) (h' : ApR w N m b' w') : ApR W N m b' w' := ⟨h'.row, h.old.trans h'.old, h.st.trans h'.st⟩
set_option maxRecDepth 100000 in
set_option maxHeartbeats 1600000 in
theorem boolWord_any (k n : Int) (s : ByteArray) (W : World) : Calls Tryz.prog 61 #[.agg #[.int .i64 k, .int .i64 n, .string s]] W fun e w' => e = .returned (.string (if n = 0 then ⟨#[102, 97, 108, 115, 101]⟩ else ⟨#[116, 114, 117, 101]⟩)) ∧ Below W.heap.size W w' := by
  have HB : Hid (Below W.heap.size W (W.alloc (.cells #[.int .i64 k, .int .i64 n, .string s] 26))) := (Below.refl _ _).alloc (Nat.le_refl _) _
  by_cases h : n = 0
  · have q : (n == 0) = true := by simp [h]
    rw [if_pos h]
    clear h
    go_enter Tryz.func61, Tryz.ntmps61
    go_wp2
    go_ret
    exact ⟨rfl, HB.out⟩
  · have q : (n == 0) = false := by simp [h]
    rw [if_neg h]
    clear h
    go_enter Tryz.func61, Tryz.ntmps61
    go_wp2
    go_ret
    exact ⟨rfl, HB.out⟩
set_option maxRecDepth 100000 in
set_option maxHeartbeats 1600000 in
theorem aheadOf_any (i : Nat) (W : World) : Calls Tryz.prog 60 #[.int .i64 i] W fun e w' => e = .returned (.string (if i = 0 then ⟨#[123]⟩ else ⟨#[44]⟩)) ∧ w' = W := by
  by_cases h : i = 0
  · subst h
    go_enter Tryz.func60, Tryz.ntmps60
    go_wp2
    go_ret
    exact ⟨rfl, rfl⟩
  · have q : ((i : Int) == 0) = false := by simp [h]
    rw [if_neg h]
    clear h
    go_enter Tryz.func60, Tryz.ntmps60
    go_wp2
    go_ret
    exact ⟨rfl, rfl⟩
set_option maxRecDepth 100000 in
set_option maxHeartbeats 3200000 in
theorem appendBool_any (b : Value) (l : List UInt8) (n : Int) (s : ByteArray) (N : Nat) (W : World) (hN : N ≤ W.heap.size) (hl : l.length ≤ 1048576) (hb : BtR W N b l) :
    Calls Tryz.prog 39 #[b, .agg #[.int .i64 1, .int .i64 n, .string s]] W fun e w' => ∃ b', e = .returned b' ∧ ApR W N (l ++ (if n = 0 then [102, 97, 108, 115, 101] else [116, 114, 117, 101])) b' w' := by
  obtain ⟨i0, hi, hz0, hz1, hz2⟩ := info_parts Tryz.info5
  obtain ⟨w0, HW0, HX, HB⟩ := one_box W #[.int .i64 1, .int .i64 n, .string s] 26
  have HA0 : Hid (ApR W N l b w0) := (ApR.start hb).next hN HB.out
  obtain ⟨u, HU⟩ := hid_name (if n = 0 then (⟨#[102, 97, 108, 115, 101]⟩ : ByteArray) else ⟨#[116, 114, 117, 101]⟩)
  have HUd : Hid (u.data.toList = (if n = 0 then [102, 97, 108, 115, 101] else [116, 114, 117, 101])) := (by show _ = _; rw [← HU.out]; split <;> rfl)
  rw [← HUd.out]
  have hus : u.size ≤ 5 := by rw [← HU.out]; split <;> decide
  have HC : Hid (∀ X, Calls Tryz.prog 61 #[.agg #[.int .i64 1, .int .i64 n, .string s]] X fun e w' => e = .returned (.string u) ∧ Below X.heap.size X w') := fun X => by rw [← HU.out]; exact boolWord_any 1 n s X
  have hsz := HB.out.size
  clear hb
  obtain ⟨x0, x1, x2⟩ := row_three HX.out
  go_enter Tryz.func39, Tryz.ntmps39
  go_upto_region 1 with fail
  rw [HW0.out]
  go_wp2_with (first
    | (go_at_call 61; refine Calls.mono (HC.out _) ?_; rintro e w1 ⟨rfl, hb1⟩; have HA1 : Hid (ApR W N l b w1) := HA0.out.next hN hb1; have hs1 := hb1.size)
    | (at_builtin; refine Lib.wpList_append_own_string _ rfl _ _ 48 9 rfl N 5 i0 Tryz.underlying48 Tryz.underlying9 hi hz0 hz1 hz2 _ _ _ rfl HA1.out.row u rfl (by unfold maxLen; omega) (by omega) (by omega) ?_; intro b2 w2 hown2 hgrow2 _; have HA2 : Hid _ := HA1.out.str hN hown2 hgrow2))
  go_ret
  exact ⟨b2, rfl, HA2.out⟩
end Go.Proofs.YtmfijliladancaaGreatDoor
