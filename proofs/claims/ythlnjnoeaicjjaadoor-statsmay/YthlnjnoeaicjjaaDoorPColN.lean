/-
  shred.startOf: where a record begins.
-/
import Derived.Test.YthlnjnoeaicjjaaDoorPBColH
import Derived.Test.YthlnjnoeaicjjaaDoorPBColB
import Derived.Test.YthlnjnoeaicjjaaDoorPSameInts
import Derived.Test.YthlnjnoeaicjjaaDoorPSmall
import Derived.Test.YthlnjnoeaicjjaaDoorPBRow4
namespace Go.Proofs.YthlnjnoeaicjjaaDoor
open Go.RowKit
theorem cntE_succ (md : Int) (xs : List Int) (i : Nat) (h : i < xs.length) : cntE md (xs.take (i + 1)) = cntE md (xs.take i) + if xs[i] = md then 1 else 0 := by
  rw [cntE, cntE, List.take_succ_eq_append_getElem h, List.filter_append, List.length_append]
  congr 1
  by_cases e : xs[i] = md
  · simp [List.filter, e]
  · have e2 : (xs[i] == md) = false := by simp [e]
    simp [List.filter, e, e2]
theorem cntE_le (md : Int) (xs : List Int) (i : Nat) : cntE md (xs.take i) ≤ i := Nat.le_trans (List.length_filter_le _ _) (by simp; omega)
/-- The first place at which more records than these have begun; the length, if there is none. -/
def StAt (rs : List Int) (rec : Int) (a : Nat) : Prop := a ≤ rs.length ∧ (∀ j, j < a → (cntE 0 (rs.take (j + 1)) : Int) ≤ rec) ∧ (a < rs.length → rec < (cntE 0 (rs.take (a + 1)) : Int))
set_option maxRecDepth 100000 in
set_option maxHeartbeats 1600000 in
theorem startC_any (r rec : Int) (k : Nat) (g g2 : Nat) (W : World) (hk : k ≤ 1048576) (hg : W.heap[g]? = some (.cells #[.int .i64 k] 3 (0, 0))) (hg2 : W.heap[g2]? = some (.cells #[.int .i64 rec] 3 (0, 0))) (hne : g2 < g) :
    Calls Tryd.prog 60 #[.int .i64 r, .pointer (some ⟨g, 0, none⟩), .pointer (some ⟨g2, 0, none⟩)] W fun e w' => e = .returned (.bool (decide (rec < ((k + if r = 0 then 1 else 0 : Nat) : Int)))) ∧ w'.heap[g]? = some (.cells #[.int .i64 ((k + if r = 0 then 1 else 0 : Nat) : Int)] 3 (0, 0)) ∧ Below g W w' := by
  obtain ⟨c0, f0⟩ := row_one hg
  obtain ⟨d0, _⟩ := row_one hg2
  have HG : Hid _ := hg
  have HG2 : Hid _ := hg2
  clear hg hg2
  by_cases hr : r = 0
  · subst hr
    have HE : Hid ((k + if (0 : Int) = 0 then 1 else 0) = k + 1) := (by show _ = _; simp)
    have HS : Hid ((W.setCell ⟨g, 0, none⟩ (.int .i64 ((k : Int) + 1))).heap[g]? = some (.cells #[.int .i64 ((k : Int) + 1)] 3 (0, 0))) := row_setCell HG.out _
    have HB : Hid (Below g W (W.setCell ⟨g, 0, none⟩ (.int .i64 ((k : Int) + 1)))) := (Below.refl _ _).setCell (by simp) _
    obtain ⟨e0, _⟩ := row_one HS.out
    obtain ⟨e1, _⟩ := row_one ((HB.out.block g2 hne).trans HG2.out)
    rw [HE.out]
    go_enter Tryd.func60, Tryd.ntmps60
    go_wp2
    go_ret
    refine ⟨?_, ?_, ?_⟩
    · simp
    · simpa using HS.out
    · exact HB.out
  · have HE : Hid ((k + if r = 0 then 1 else 0) = k) := (by show _ = _; simp [hr])
    rw [HE.out]
    have q : (r == 0) = false := by simp [hr]
    clear hr
    go_enter Tryd.func60, Tryd.ntmps60
    go_wp2
    go_ret
    exact ⟨rfl, HG.out, Below.refl _ _⟩
set_option maxRecDepth 100000 in
set_option maxHeartbeats 1600000 in
theorem idxSt_any (rec : Int) (g g2 : Nat) (a : Option Addr) (c : Nat) (xs : List Int) (hn : xs.length ≤ 1048576) (W : World) (hg : W.heap[g]? = some (.cells #[.int .i64 0] 3 (0, 0))) (hg2 : W.heap[g2]? = some (.cells #[.int .i64 rec] 3 (0, 0))) (hne : g2 < g) (hl : ∀ X, Below g W X → Lies X a (i64s xs)) :
    Calls Tryd.prog (59) #[.slice a xs.length c, .func (.func 60) #[] #[.pointer (some ⟨g, 0, none⟩), .pointer (some ⟨g2, 0, none⟩)]] W fun e w' => (∃ r, e = .returned (.int .i64 r) ∧ ((r = -1 ∧ StAt xs rec xs.length) ∨ ∃ i : Nat, i < xs.length ∧ r = i ∧ StAt xs rec i)) ∧ Below g W w' := by
  have HL : Hid (∀ X, Below g W X → Lies X a (i64s xs)) := hl
  have HG2 : Hid (W.heap[g2]? = some (.cells #[.int .i64 rec] 3 (0, 0))) := hg2
  have HG0 : Hid _ := hg
  clear hl hg2 hg
  go_enter Tryd.func59, Tryd.ntmps59
  go_wp2
  go_loopw [8] (fun x wr => ∃ i : Nat, i ≤ xs.length ∧ x = .int .i64 i ∧ Hid (∀ j, j < i → (cntE 0 (xs.take (j + 1)) : Int) ≤ rec) ∧ Hid (wr.heap[g]? = some (.cells #[.int .i64 (cntE 0 (xs.take i) : Nat)] 3 (0, 0))) ∧ Hid (Below g W wr)) (fun x _ => xs.length - (intOf x).toNat)
  case atStart => exact ⟨0, Nat.zero_le _, rfl, fun j h => absurd h (Nat.not_lt_zero _), HG0, Below.refl _ _⟩
  case round =>
    obtain ⟨i, hi, rfl, HA, HG, HB⟩ := hrel
    by_cases hlt : i < xs.length
    · obtain ⟨b, o, rfl, hc⟩ := lies_ints (HL.out wr HB.out) i hlt
      have HS : Hid (cntE 0 (xs.take (i + 1)) = cntE 0 (xs.take i) + if xs[i] = 0 then 1 else 0) := cntE_succ 0 xs i hlt
      have hle := cntE_le 0 xs i
      obtain ⟨k, HK⟩ : ∃ k, Hid (cntE 0 (xs.take i) = k) := ⟨_, rfl⟩
      rw [HK.out] at hle HS HG
      go_wp2_with fail
      refine (startC_any xs[i] rec k g g2 wr (by omega) HG.out ((HB.out.block g2 hne).trans HG2.out) hne).mono ?_
      rw [← HS.out]
      rintro e w1 ⟨rfl, hg1, hb1⟩
      have HG1 : Hid _ := hg1
      have HB1 : Hid (Below g W w1) := HB.out.trans hb1
      clear hg1 hb1 hc
      by_cases hq : rec < (cntE 0 (xs.take (i + 1)) : Int)
      · have HQ : Hid _ := hq
        have q1 : decide (rec < (cntE 0 (xs.take (i + 1)) : Int)) = true := decide_eq_true hq
        clear hq
        go_wp2
        go_ret
        exact ⟨⟨(i : Int), rfl, .inr ⟨i, hlt, rfl, by omega, HA.out, fun _ => HQ.out⟩⟩, HB1.out⟩
      · have q1 : decide (rec < (cntE 0 (xs.take (i + 1)) : Int)) = false := decide_eq_false hq
        have HN : Hid (∀ j, j < i + 1 → (cntE 0 (xs.take (j + 1)) : Int) ≤ rec) := fun j hj => by
          by_cases e : j = i
          · subst e; omega
          · exact HA.out j (by omega)
        clear hq
        go_wp2
        go_roundw
        case rel => exact ⟨i + 1, by omega, by go_num, HN, HG1, HB1⟩
        case measure => simp [intOf]; omega
    · obtain rfl : i = xs.length := by omega
      go_wp2
      go_ret
      exact ⟨⟨-1, rfl, .inl ⟨rfl, Nat.le_refl _, HA.out, fun h => absurd h (Nat.lt_irrefl _)⟩⟩, HB.out⟩
set_option maxRecDepth 100000 in
set_option maxHeartbeats 1600000 in
theorem startOf_any (id rec : Int) (ra : Option Addr) (rs : List Int) (rc : Nat) (da : Option Addr) (qn dc : Nat) (va : Option Addr) (vn vc : Nat) (hn : rs.length ≤ 1048576) (W : World) (hl : Lies W ra (i64s rs)) :
    Calls Tryd.prog 39 #[colV id ra rs.length rc da qn dc va vn vc, .int .i64 rec] W fun e w' => (∃ a : Nat, e = .returned (.int .i64 a) ∧ StAt rs rec a) ∧ Below W.heap.size W w' := by
  have hmf : ∀ (fn : Fn) (first cap : Array Value) (W : World), (Instr.makeFunc fn first cap).run Tryd.prog W = .ok (.func fn first cap) W := fun _ _ _ _ => rfl
  unfold colV
  obtain ⟨w0, HW0, HX, HY, HB⟩ := two_boxes W #[.int .i64 id, .slice ra rs.length rc, .slice da qn dc, .slice va vn vc] #[.int .i64 rec] 44 3
  have hz : w0.heap.size = W.heap.size + 1 + 1 := by rw [← HW0.out]; simp
  have HA : Hid ((w0.alloc (.cells #[.int .i64 0] 3)).heap[W.heap.size + 1 + 1]? = some (.cells #[.int .i64 0] 3 (0, 0))) := (by
    have h := heap_alloc_new w0 (.cells #[.int .i64 0] 3)
    rw [hz] at h
    exact h)
  have hb1 : Below w0.heap.size w0 (w0.alloc (.cells #[.int .i64 0] 3)) := (Below.refl _ _).alloc (Nat.le_refl _) _
  have HB1 : Hid (Below w0.heap.size w0 (w0.alloc (.cells #[.int .i64 0] 3))) := hb1
  have HC : Hid _ := idxSt_any rec (W.heap.size + 1 + 1) (W.heap.size + 1) ra rc rs hn (w0.alloc (.cells #[.int .i64 0] 3)) HA.out (blk_keep hb1 HY.out) (by omega) (fun X hX => (hl.keep HB.out).keep (hb1.trans (hz ▸ hX)))
  have HZ : Hid _ := hz
  clear hl hb1 hz
  go_enter Tryd.func39, Tryd.ntmps39
  go_wp2_with fail
  rw [HW0.out]
  refine Calls.mono HC.out ?_
  rintro e w1 ⟨⟨r, rfl, hr⟩, hb1⟩
  have HB2 : Hid (Below w0.heap.size w0 w1) := HB1.out.trans (HZ.out ▸ hb1)
  have HB3 : Hid (Below W.heap.size W w1) := HB.out.trans (HB2.out.mono HB.out.size)
  obtain ⟨k0, k1, k2, k3⟩ := row_four (blk_keep HB2.out HX.out)
  clear hb1
  rcases hr with ⟨rfl, hs⟩ | ⟨i, hi, rfl, hs⟩
  · have HS : Hid _ := hs
    clear hs
    go_wp2
    go_ret
    exact ⟨⟨rs.length, rfl, HS.out⟩, HB3.out⟩
  · have HS : Hid _ := hs
    have q1 : decide ((i : Int) < 0) = false := by rw [decide_eq_false_iff_not]; omega
    clear hs
    go_wp2
    go_ret
    exact ⟨⟨i, rfl, HS.out⟩, HB3.out⟩
end Go.Proofs.YthlnjnoeaicjjaaDoor
