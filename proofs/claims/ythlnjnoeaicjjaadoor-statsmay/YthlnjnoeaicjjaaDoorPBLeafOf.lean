/-
  schema.leafOf: what is told of a leaf.
  shred's columns: bounds, levels, how many.
-/
import Derived.Test.YthlnjnoeaicjjaaDoorPPathTo
import Derived.Test.YthlnjnoeaicjjaaDoorPBPackF
import Derived.Test.YthlnjnoeaicjjaaDoorPLfM
namespace Go.Proofs.YthlnjnoeaicjjaaDoor
open Go.RowKit
/-- What leafOf's loop keeps. -/
structure LfI (N g : Nat) (w1 : World) (t : Tr) (l : List Tr) (wr : World) (pv : Value) : Prop where
  os : wr.os = w1.os
  tape : wr.tape = w1.tape
  output : wr.output = w1.output
  size : w1.heap.size ≤ wr.heap.size
  old : ∀ k, k < N → k ≠ g → wr.heap[k]? = w1.heap[k]?
  leaf : wr.heap[g]? = some (.cells #[.int .i64 t.id, .int .i64 t.kind, .int .i64 (lvR l : Nat), .int .i64 (lvD l : Nat), pv] 48 (0, 0))
  row : wr.ownsRow N 3 1 pv l.length (i64s (l.map Tr.id))
theorem LfI.alloc {N g : Nat} {w1 : World} {t : Tr} {l : List Tr} {wr : World} {pv : Value} (h : LfI N g w1 t l wr pv) (hN : N ≤ w1.heap.size) (o : Obj) : LfI N g w1 t l (wr.alloc o) pv := by
  have hs := h.size
  exact ⟨h.os, h.tape, h.output, by simp; omega, fun k hk hne => by rw [heap_alloc_old wr o (by omega)]; exact h.old k hk hne, blk_alloc h.leaf, h.row.alloc o⟩
theorem LfI.put {N g : Nat} {w1 : World} {t : Tr} {l : List Tr} {w2 w3 : World} {x : Tr} {pv2 : Value} {mr md : Int} (hg : g < N) (hold : ∀ k, k < N → k ≠ g → w2.heap[k]? = w1.heap[k]?) (ho : w2.os = w1.os ∧ w2.tape = w1.tape ∧ w2.output = w1.output ∧ w1.heap.size ≤ w2.heap.size)
    (hown : w2.ownsRow N 3 1 pv2 (l.length + 1) (i64s (l.map Tr.id) ++ [.int .i64 x.id])) (h3 : ∀ k, k ≠ g → w3.heap[k]? = w2.heap[k]?) (h4 : w3.os = w2.os ∧ w3.tape = w2.tape ∧ w3.output = w2.output ∧ w3.heap.size = w2.heap.size)
    (hl : w3.heap[g]? = some (.cells #[.int .i64 t.id, .int .i64 t.kind, .int .i64 mr, .int .i64 md, pv2] 48 (0, 0))) (hmr : mr = (lvR (l ++ [x]) : Nat)) (hmd : md = (lvD (l ++ [x]) : Nat)) : LfI N g w1 t (l ++ [x]) w3 pv2 := by
  subst hmr hmd
  refine ⟨h4.1.trans ho.1, h4.2.1.trans ho.2.1, h4.2.2.1.trans ho.2.2.1, by rw [h4.2.2.2]; exact ho.2.2.2, fun k hk hne => (h3 k hne).trans (hold k hk hne), hl, ?_⟩
  rw [List.length_append]
  have e : i64s ((l ++ [x]).map Tr.id) = i64s (l.map Tr.id) ++ [.int .i64 x.id] := by simp [i64s]
  rw [e]
  exact own_same hown fun k hk => h3 k (fun e => by have := (own_block hown hk).1; omega)
end Go.Proofs.YthlnjnoeaicjjaaDoor

namespace Go.Proofs.YthlnjnoeaicjjaaDoor
open Go.RowKit
def btw (a n b : Int) : Bool := decide (a ≤ n ∧ n ≤ b)
set_option maxRecDepth 100000 in
set_option maxHeartbeats 1600000 in
theorem between_any (a n b : Int) (W : World) : Calls Tryd.prog 62 #[.int .i64 a, .int .i64 n, .int .i64 b] W fun e w' => e = .returned (.bool (btw a n b)) ∧ w' = W := by
  by_cases h1 : a ≤ n
  all_goals
    by_cases h2 : n ≤ b
    all_goals
      have HE : Hid (btw a n b = decide (a ≤ n ∧ n ≤ b)) := rfl
      go_enter Tryd.func62, Tryd.ntmps62
      go_wp2
      all_goals go_ret
      all_goals (rw [HE.out]; simp [h1, h2])
abbrev leafV (id kind mr md : Int) (pa : Option Addr) (pn pc : Nat) : Value := .agg #[.int .i64 id, .int .i64 kind, .int .i64 mr, .int .i64 md, .slice pa pn pc]
def isLfB (kind mr md : Int) : Bool := btw 1 kind 5 && btw 0 mr 40 && btw 0 md 40
set_option maxRecDepth 100000 in
set_option maxHeartbeats 1600000 in
theorem sIsLeaf_any (id kind mr md : Int) (pa : Option Addr) (pn pc : Nat) (W : World) : Calls Tryd.prog 43 #[leafV id kind mr md pa pn pc] W fun e w' => e = .returned (.bool (isLfB kind mr md)) ∧ Below W.heap.size W w' := by
  have HB : Hid (Below W.heap.size W (W.alloc (.cells #[.int .i64 id, .int .i64 kind, .int .i64 mr, .int .i64 md, .slice pa pn pc] 48))) := (Below.refl _ _).alloc (Nat.le_refl _) _
  obtain ⟨b1, H1⟩ : ∃ b1, Hid (btw 1 kind 5 = b1) := ⟨_, rfl⟩
  obtain ⟨b2, H2⟩ : ∃ b2, Hid (btw 0 mr 40 = b2) := ⟨_, rfl⟩
  obtain ⟨b3, H3⟩ : ∃ b3, Hid (btw 0 md 40 = b3) := ⟨_, rfl⟩
  have HE : Hid (isLfB kind mr md = (b1 && b2 && b3)) := (by show _ = _; rw [isLfB, H1.out, H2.out, H3.out])
  unfold leafV
  go_enter Tryd.func43, Tryd.ntmps43
  go_wp2_with fail
  refine (between_any 1 kind 5 _).mono ?_
  rw [H1.out]
  rintro e w1 ⟨rfl, rfl⟩
  cases b1 with
  | false =>
    go_wp2
    go_ret
    exact ⟨by rw [HE.out]; rfl, HB.out⟩
  | true =>
    go_wp2_with fail
    refine (between_any 0 mr 40 _).mono ?_
    rw [H2.out]
    rintro e w1 ⟨rfl, rfl⟩
    cases b2 with
    | false =>
      go_wp2
      go_ret
      exact ⟨by rw [HE.out]; rfl, HB.out⟩
    | true =>
      go_wp2_with fail
      refine (between_any 0 md 40 _).mono ?_
      rw [H3.out]
      rintro e w1 ⟨rfl, rfl⟩
      go_wp2
      go_ret
      exact ⟨by rw [HE.out]; simp, HB.out⟩
set_option maxRecDepth 100000 in
set_option maxHeartbeats 1600000 in
/-- fits' 'outside': a function value that holds the bound. -/
theorem outside_any (most : Int) (W : World) : Calls Tryd.prog 63 #[.int .i64 most] W fun e w' => e = .returned (.func (.func 64) #[] #[.pointer (some ⟨W.heap.size, 0, none⟩)]) ∧ w' = W.alloc (.cells #[.int .i64 most] 3) := by
  have hmf : ∀ (fn : Fn) (first cap : Array Value) (W : World), (Instr.makeFunc fn first cap).run Tryd.prog W = .ok (.func fn first cap) W := fun _ _ _ _ => rfl
  go_enter Tryd.func63, Tryd.ntmps63
  go_wp2
  go_ret
  exact ⟨rfl, rfl⟩
set_option maxRecDepth 100000 in
set_option maxHeartbeats 1600000 in
theorem out1_any (lv most : Int) (g : Nat) (W : World) (hg : W.heap[g]? = some (.cells #[.int .i64 most] 3 (0, 0))) : Calls Tryd.prog 64 #[.int .i64 lv, .pointer (some ⟨g, 0, none⟩)] W fun e w' => e = .returned (.bool (!(btw 0 lv most))) ∧ w' = W := by
  obtain ⟨c0, _⟩ := row_one hg
  clear hg
  go_enter Tryd.func64, Tryd.ntmps64
  go_wp2_with fail
  refine (between_any 0 lv most _).mono ?_
  rintro e w1 ⟨rfl, rfl⟩
  go_wp2
  go_ret
  exact ⟨rfl, rfl⟩
set_option maxRecDepth 100000 in
set_option maxHeartbeats 1600000 in
/-- slices.IndexFunc over ints: the first level outside. -/
theorem idxO_any (most : Int) (g : Nat) (a : Option Addr) (c : Nat) (xs : List Int) (hn : xs.length ≤ 1048576) (W : World) (hg : W.heap[g]? = some (.cells #[.int .i64 most] 3 (0, 0))) (hl : Lies W a (i64s xs)) :
    Calls Tryd.prog (59) #[.slice a xs.length c, .func (.func 64) #[] #[.pointer (some ⟨g, 0, none⟩)]] W fun e w' => (∃ r, e = .returned (.int .i64 r) ∧ Idx (fun x => !(btw 0 x most)) xs r) ∧ w' = W := by
  have HL : Hid (Lies W a (i64s xs)) := hl
  have HG : Hid (W.heap[g]? = some (.cells #[.int .i64 most] 3 (0, 0))) := hg
  clear hl hg
  go_enter Tryd.func59, Tryd.ntmps59
  go_wp2
  go_loop [8] (fun x => ∃ i : Nat, i ≤ xs.length ∧ x = .int .i64 i ∧ Hid (∀ j (h : j < xs.length), j < i → (!(btw 0 xs[j] most)) = false)) (fun x => xs.length - (intOf x).toNat)
  case atStart => exact ⟨0, Nat.zero_le _, rfl, fun j _ h => absurd h (Nat.not_lt_zero _)⟩
  case round =>
    obtain ⟨i, hi, rfl, HA⟩ := hrel
    by_cases hlt : i < xs.length
    · obtain ⟨b, o, rfl, hc⟩ := HL.out i (by simpa [i64s] using hlt)
      have hc' : W.cell? ⟨b, o + i, none⟩ = some (.int .i64 xs[i]) := by rw [hc]; simp [i64s]
      clear hc
      go_wp2_with fail
      refine (out1_any xs[i] most g W HG.out).mono ?_
      rintro e w1 ⟨rfl, rfl⟩
      cases hq : (!(btw 0 xs[i] most)) with
      | true =>
        have HQ : Hid _ := hq
        clear hq
        go_wp2
        go_ret
        exact ⟨⟨(i : Int), rfl, .inr ⟨i, hlt, rfl, HQ.out, fun j h => HA.out j (by omega) h⟩⟩, rfl⟩
      | false =>
        have HN : Hid (∀ j (h : j < xs.length), j < i + 1 → (!(btw 0 xs[j] most)) = false) := fun j h hj => by
          by_cases e : j = i
          · subst e; exact hq
          · exact HA.out j h (by omega)
        clear hq
        go_wp2
        go_round
        case rel => exact ⟨i + 1, by omega, by go_num, HN⟩
        case measure => simp [intOf]; omega
    · obtain rfl : i = xs.length := by omega
      go_wp2
      go_ret
      exact ⟨⟨-1, rfl, .inl ⟨rfl, fun j h => HA.out j h h⟩⟩, rfl⟩
set_option maxRecDepth 100000 in
set_option maxHeartbeats 1600000 in
theorem containsO_any (most : Int) (g : Nat) (a : Option Addr) (c : Nat) (xs : List Int) (hn : xs.length ≤ 1048576) (W : World) (hg : W.heap[g]? = some (.cells #[.int .i64 most] 3 (0, 0))) (hl : Lies W a (i64s xs)) :
    Calls Tryd.prog (65) #[.slice a xs.length c, .func (.func 64) #[] #[.pointer (some ⟨g, 0, none⟩)]] W fun e w' => e = .returned (.bool (xs.any fun x => !(btw 0 x most))) ∧ w' = W := by
  have HC : Hid _ := idxO_any most g a c xs hn W hg hl
  clear hg hl
  go_enter Tryd.func65, Tryd.ntmps65
  go_wp2_with fail
  refine Calls.mono HC.out ?_
  rintro e w1 ⟨⟨r, rfl, hr⟩, rfl⟩
  have HR : Hid _ := hr.any
  clear hr
  go_wp2
  go_ret
  exact ⟨by rw [← HR.out]; rfl, rfl⟩
end Go.Proofs.YthlnjnoeaicjjaaDoor
