/-
  bitrun.Pack: what it answers, for a right width and whatever numbers; out of its bounds; and the closed fact nine().
  Numbers as runs: the bytes that are written: the mathematics, without the program.
  What the law and the reference make of ints: ints, Wide, bitsOf, PackOf: what they answer.
  bitrun.unpack: the numbers that bytes are, so many bits each.
-/
import Derived.Test.YteonbmaokphleaaGreatDoorHBase
import Derived.Test.YteonbmaokphleaaGreatDoorHBMath
import Derived.Laws.MakeOwn
import Derived.RegionTactic
import Derived.OwnWalk
import Derived.Lib.AppendZeros
namespace Go.Proofs.YteonbmaokphleaaGreatDoor
open Go.RowKit
def nats (xs : List Int) : List Nat := xs.map Int.toNat
end Go.Proofs.YteonbmaokphleaaGreatDoor
namespace Go.Proofs.YteonbmaokphleaaGreatDoor
namespace Um
def lead : List Int → Nat
 | [] => 0
 | x :: l => 1 + (l.takeWhile (· == x)).length
def flush (w : Nat) (p : List Int) : List UInt8 := if p.length = 0 then [] else uv (2 * ((p.length + 7) / 8) + 1) ++ lit (num w (nats p)) ((p.length + 7) / 8 * w)
def wr (w : Nat) : Nat → List Int → List Int → List UInt8
 | 0, p, _ => flush w p
 | f + 1, p, r => if r.length = 0 then flush w p
  else if lead r < 8 then wr w f (p ++ r.take 8) (r.drop 8)
  else flush w p ++ (uv (2 * lead r) ++ lit (r.headD 0).toNat ((w + 7) / 8)) ++ wr w f [] (r.drop (lead r))
end Um
end Go.Proofs.YteonbmaokphleaaGreatDoor
namespace Go.Proofs.YteonbmaokphleaaGreatDoor
open Go.RowKit
theorem Tryz.info3 : (Tryz.prog.info? 3).map (fun i => (i.zero, i.size, i.bytes)) = some (some (.int .i64 0), 1, 8) := by kernel_rfl
def Lies (w : World) (a : Option Addr) (cs : List Value) : Prop := ∀ j (h : j < cs.length), ∃ b o, a = some ⟨b, o, none⟩ ∧ w.cell? ⟨b, o + j, none⟩ = some cs[j]
theorem Lies.keep {w w' : World} {a : Option Addr} {cs : List Value} (h : Lies w a cs) (hb : Below w.heap.size w w') : Lies w' a cs := fun j hj => by
 obtain ⟨b, o, e, hc⟩ := h j hj
 exact ⟨b, o, e, (hb.cell (World.block_lt_of_cell? w _ hc)).trans hc⟩
theorem addr_add (b o j : Nat) : (⟨b, o, none⟩ : Addr).add j = ⟨b, o + j, none⟩ := by unfold Addr.add; split <;> simp_all
theorem lies_own {w : World} {base e n : Nat} {v : Value} {cs : List Value} (h : w.ownsRow base e 1 v n cs) : ∃ a c, v = .slice a cs.length c ∧ Lies w a cs := by
 have hl := h.1
 rw [Nat.mul_one] at hl
 rcases h.2 with ⟨rfl, rfl⟩ | ⟨g, cap, cur, rfl, _, hg, _, _, _, htake⟩
 · refine ⟨none, 0, by rw [hl], fun j hj => absurd hj (by omega)⟩
 · refine ⟨some ⟨g, 0, none⟩, cap, by rw [hl], fun j hj => ⟨g, 0, rfl, ?_⟩⟩
   have := h.cells rfl j _ (List.getElem?_eq_getElem hj)
   rw [addr_add] at this
   exact this
def i64s (xs : List Int) : List Value := xs.map (Value.int .i64)
theorem i64s_len (xs : List Int) : (i64s xs).length = xs.length := by simp [i64s]
theorem lies_ints {w : World} {a : Option Addr} {xs : List Int} (h : Lies w a (i64s xs)) : ∀ j (h : j < xs.length), ∃ b o, a = some ⟨b, o, none⟩ ∧ w.cell? ⟨b, o + j, none⟩ = some (.int .i64 xs[j]) := fun j hj => by
 obtain ⟨b, o, e, hc⟩ := h j (by rw [i64s_len]; exact hj)
 exact ⟨b, o, e, by rw [hc]; simp [i64s]⟩
end Go.Proofs.YteonbmaokphleaaGreatDoor
namespace Go.Proofs.YteonbmaokphleaaGreatDoor
open Go.RowKit
structure GRow (f : Nat → Value) (k g : Nat) (w wr : World) (i : Nat) : Prop where
 done : ∀ j, j < i → wr.cell? ⟨g, j, none⟩ = some (f j)
 any : ∀ j, j < k → ∃ v, wr.cell? ⟨g, j, none⟩ = some v
 froz : ∀ j, j < k → wr.frozen? ⟨g, j, none⟩ = false
 old : Below w.heap.size w wr
theorem GRow.start (f : Nat → Value) (k ty : Nat) (w : World) (M : Array Value) (hM : M.size = k) : GRow f k w.heap.size w (w.alloc (.cells M ty)) 0 := by
 refine ⟨fun j h => absurd h (Nat.not_lt_zero _), fun j hj => ?_, fun j _ => ?_, (Below.refl _ _).alloc (Nat.le_refl _) _⟩
 · rw [cell_of_row _ w.heap.size j M ty (0, 0) (heap_alloc_new w _)]
   exact ⟨_, Array.getElem?_eq_getElem (by omega)⟩
 · exact frozen_of_row _ w.heap.size j M ty (heap_alloc_new w _)
theorem GRow.next {f : Nat → Value} {k g : Nat} {w wr : World} {i : Nat} {v : Value} (h : GRow f k g w wr i) (hg : w.heap.size ≤ g) (hi : i < k) (hv : v = f i) : GRow f k g w (wr.setCell ⟨g, i, none⟩ v) (i + 1) := by
 subst hv
 obtain ⟨v, hv⟩ := h.any i hi
 have hother : ∀ j, j ≠ i → (wr.setCell ⟨g, i, none⟩ (f i)).cell? ⟨g, j, none⟩ = wr.cell? ⟨g, j, none⟩ := fun j hj =>
  World.cell?_setCell_other _ _ _ _ (fun e => hj (by injection e with _ e; exact e.symm))
 refine ⟨fun j hj => ?_, fun j hj => ?_, fun j hj => by simpa using h.froz j hj, h.old.setCell hg _⟩
 · by_cases e : j = i
   · subst e; exact World.cell?_setCell_same _ _ _ hv
   · rw [hother j e]; exact h.done j (by omega)
 · by_cases e : j = i
   · subst e; exact ⟨_, World.cell?_setCell_same _ _ _ hv⟩
   · rw [hother j e]; exact h.any j hj
structure UI (s : ByteArray) (wd i : Nat) (r h nx : Value) (q r' h' : Nat) : Prop where
 hr : r = .int .u64 r'
 hh : h = .int .i64 h'
 hn : nx = .int .i64 q
 hq : q ≤ s.size
 bal : wd * i + h' = 8 * q
 rest : r' = Um.lev (s.data.toList.take q) / 2 ^ (wd * i)
 small : h' < wd + 8
theorem UI.lt {s : ByteArray} {wd i : Nat} {r h nx : Value} {q r' h' : Nat} (u : UI s wd i r h nx q r' h') : r' < 2 ^ h' := by
 rw [u.rest, show h' = 8 * q - wd * i by have := u.bal; omega]
 exact Um.div_lt_pow (Um.lev_take_lt _ _ (by simpa using u.hq)) (by have := u.bal; omega)
theorem UI.step {s : ByteArray} {wd i : Nat} {r h nx : Value} {q r' h' : Nat} (u : UI s wd i r h nx q r' h') (hq : q < s.size) (hh : h' < wd) :
    UI s wd i (.int .u64 ((r' + (s[q]).toNat * 2 ^ h' : Nat) : Int)) (.int .i64 ((h' + 8 : Nat) : Int)) (.int .i64 ((q + 1 : Nat) : Int)) (q + 1) (r' + (s[q]).toNat * 2 ^ h') (h' + 8) := by
 refine ⟨rfl, rfl, rfl, hq, by have := u.bal; omega, ?_, by omega⟩
 have e : (s.data.toList)[q]'(by simpa using hq) = s[q] := rfl
 rw [Um.lev_take _ q (by simpa using hq), Um.add_above _ _ _ _ (by have := u.bal; omega), ← u.rest, e, show 8 * q - wd * i = h' by have := u.bal; omega]
end Go.Proofs.YteonbmaokphleaaGreatDoor
