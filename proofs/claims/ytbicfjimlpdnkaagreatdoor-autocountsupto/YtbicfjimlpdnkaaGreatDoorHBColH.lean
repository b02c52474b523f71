/-
  The reference's ColumnError: what it answers.
  shred.check: what it answers.
  shred.startOf: where a record begins.
  Appending to nil whatever ints or values; OwnColumn.
  The reference's OwnColumn.
-/
import Derived.Test.YtbicfjimlpdnkaaGreatDoorHBWriter
import Derived.Test.YtbicfjimlpdnkaaGreatDoorHSameInts
import Derived.Test.YtbicfjimlpdnkaaGreatDoorHSmall
import Derived.Test.YtbicfjimlpdnkaaGreatDoorHBRow4
import Derived.Test.YtbicfjimlpdnkaaGreatDoorHSameLies
import Derived.Deep.RegionHeld3
import Derived.Test.YtbicfjimlpdnkaaGreatDoorHRefVals
import Derived.BigQuiet
import Derived.Test.YtbicfjimlpdnkaaGreatDoorHBColDt
namespace Go.Proofs.YtbicfjimlpdnkaaGreatDoor
open Go.RowKit
theorem fitB_iff {lid mr md cid : Int} {rs ds : List Int} {nv : Nat} : fitB lid mr md cid rs ds nv = true ↔ cid = lid ∧ rs.length = ds.length ∧ headB rs = false ∧ (∀ x ∈ rs, btw 0 x mr = true) ∧ (∀ x ∈ ds, btw 0 x md = true) ∧ nv = cntE md ds := by
  unfold fitB
  by_cases h1 : cid ≠ lid ∨ rs.length ≠ ds.length
  · rw [if_pos h1]
    constructor
    · intro h; cases h
    · rintro ⟨a, b, _⟩; rcases h1 with h | h <;> contradiction
  · rw [if_neg h1]
    have h1' : cid = lid ∧ rs.length = ds.length := by
      constructor
      · exact Decidable.byContradiction fun h => h1 (.inl h)
      · exact Decidable.byContradiction fun h => h1 (.inr h)
    cases hh : headB rs
    · rw [if_neg (by simp)]
      by_cases h2 : (rs.any fun x => !(btw 0 x mr)) = true ∨ (ds.any fun x => !(btw 0 x md)) = true
      · rw [if_pos h2]
        constructor
        · intro h; cases h
        · rintro ⟨_, _, _, a, b, _⟩
          rcases h2 with h | h
          · obtain ⟨x, hx, he⟩ := List.any_eq_true.1 h
            rw [a x hx] at he; cases he
          · obtain ⟨x, hx, he⟩ := List.any_eq_true.1 h
            rw [b x hx] at he; cases he
      · rw [if_neg h2, decide_eq_true_iff]
        constructor
        · intro h
          refine ⟨h1'.1, h1'.2, rfl, fun x hx => ?_, fun x hx => ?_, h⟩
          · cases hb : btw 0 x mr
            · exact absurd (.inl (List.any_eq_true.2 ⟨x, hx, by rw [hb]; rfl⟩)) h2
            · rfl
          · cases hb : btw 0 x md
            · exact absurd (.inr (List.any_eq_true.2 ⟨x, hx, by rw [hb]; rfl⟩)) h2
            · rfl
        · exact fun h => h.2.2.2.2.2
    · rw [if_pos rfl]
      constructor
      · intro h; cases h
      · rintro ⟨_, _, h, _⟩; cases h
end Go.Proofs.YtbicfjimlpdnkaaGreatDoor

namespace Go.Proofs.YtbicfjimlpdnkaaGreatDoor
open Go.RowKit
theorem ckB {w w' : World} {g : Nat} {v : Value} (h : w.cell? ⟨g, 0, none⟩ = some v) (hb : Below w.heap.size w w') : w'.cell? ⟨g, 0, none⟩ = some v := (hb.cell (World.block_lt_of_cell? w _ h)).trans h
/-- Two boxes behind each other. -/
theorem two_boxes (W : World) (c1 c2 : Array Value) (t1 t2 : TypeId) : ∃ w0, Hid ((W.alloc (.cells c1 t1)).alloc (.cells c2 t2) = w0) ∧ Hid (w0.heap[W.heap.size]? = some (.cells c1 t1 (0, 0))) ∧ Hid (w0.heap[W.heap.size + 1]? = some (.cells c2 t2 (0, 0))) ∧ Hid (Below W.heap.size W w0) := by
  refine ⟨_, rfl, blk_alloc (heap_alloc_new W _), ?_, ((Below.refl _ _).alloc (Nat.le_refl _) _).alloc (by simp) _⟩
  have h := heap_alloc_new (W.alloc (.cells c1 t1)) (.cells c2 t2)
  rw [show (W.alloc (.cells c1 t1)).heap.size = W.heap.size + 1 by simp] at h
  exact h
/-- What shred.check answers. -/
def CkRet (N : Nat) (lid kind mr md cid : Int) (rs ds : List Int) (vs : List Vl) (sv kv : Value) (e : Ending) (w' : World) : Prop :=
  ((isLfB kind mr md && fitB lid mr md cid rs ds vs.length) = false ∧ e = .returned sv) ∨
  ((isLfB kind mr md && fitB lid mr md cid rs ds vs.length) = true ∧ (((∀ j (h : j < vs.length), badV kind vs[j] = false) ∧ e = .returned .nilIface) ∨
    ∃ p : Nat, ∃ hp : p < vs.length, badV kind vs[p] = true ∧ (∀ j (h : j < vs.length), j < p → badV kind vs[j] = false) ∧ ∃ q, N ≤ q ∧ e = .returned (.iface 63 (.pointer (some ⟨q, 0, none⟩))) ∧ w'.cell? ⟨q, 0, none⟩ = some (.int .i64 p) ∧ w'.cell? ⟨q, 1, none⟩ = some kv))
set_option maxRecDepth 100000 in
set_option maxHeartbeats 3200000 in
theorem scheck_any (lid kind mr md cid : Int) (pa ra da va : Option Addr) (pn pc rc dc vc : Nat) (rs ds : List Int) (vs : List Vl) (W : World) (st kt : TypeId) (sp kp : Value)
    (hn : rs.length ≤ 1048576) (hn2 : ds.length ≤ 1048576) (hv : vs.length ≤ 1048576) (hs : W.cell? ⟨1, 0, none⟩ = some (.iface st sp)) (hk : W.cell? ⟨3, 0, none⟩ = some (.iface kt kp))
    (hr : Lies W ra (i64s rs)) (hd : Lies W da (i64s ds)) (hvs : LiesV W va vs) :
    Calls Tryz.prog 86 #[leafV lid kind mr md pa pn pc, colV cid ra rs.length rc da ds.length dc va vs.length vc] W fun e w' => CkRet W.heap.size lid kind mr md cid rs ds vs (.iface st sp) (.iface kt kp) e w' ∧ Below W.heap.size W w' := by
  have hmf : ∀ (fn : Fn) (first cap : Array Value) (W : World), (Instr.makeFunc fn first cap).run Tryz.prog W = .ok (.func fn first cap) W := fun _ _ _ _ => rfl
  unfold leafV colV
  obtain ⟨w0, HW0, HX, HY, HB⟩ := two_boxes W #[.int .i64 lid, .int .i64 kind, .int .i64 mr, .int .i64 md, .slice pa pn pc] #[.int .i64 cid, .slice ra rs.length rc, .slice da ds.length dc, .slice va vs.length vc] 67 42
  have HR : Hid (Lies w0 ra (i64s rs)) := hr.keep HB.out
  have HD : Hid (Lies w0 da (i64s ds)) := hd.keep HB.out
  have HV : Hid (LiesV w0 va vs) := hvs.keep HB.out
  have HS : Hid (w0.cell? ⟨1, 0, none⟩ = some (.iface st sp)) := ckB hs HB.out
  have HK : Hid (w0.cell? ⟨3, 0, none⟩ = some (.iface kt kp)) := ckB hk HB.out
  clear hr hd hvs hs hk
  obtain ⟨b0, H0⟩ : ∃ b, Hid (isLfB kind mr md = b) := ⟨_, rfl⟩
  obtain ⟨b1, H1⟩ : ∃ b, Hid (fitB lid mr md cid rs ds vs.length = b) := ⟨_, rfl⟩
  go_enter Tryz.func86, Tryz.ntmps86
  go_wp2_with fail
  rw [HW0.out]
  refine (sIsLeaf_any lid kind mr md pa pn pc _).mono ?_
  rw [H0.out]
  rintro e w1 ⟨rfl, hb1⟩
  have HB1 : Hid (Below w0.heap.size w0 w1) := hb1
  clear hb1
  obtain ⟨⟨p0, p1, p2, p3, p4⟩, _⟩ := row_five (blk_keep HB1.out HX.out)
  obtain ⟨k0, k1, k2, k3⟩ := row_four (blk_keep HB1.out HY.out)
  have s1 := ckB HS.out HB1.out
  cases b0
  · go_wp2
    go_ret
    exact ⟨.inl ⟨by rw [H0.out]; rfl, rfl⟩, HB.out.trans (HB1.out.mono HB.out.size)⟩
  · go_wp2_with fail
    refine (sfits_any lid kind mr md pa pn pc cid ra rs rc da ds dc va vs.length vc hn hn2 w1 (HR.out.keep HB1.out) (HD.out.keep HB1.out)).mono ?_
    rw [H1.out]
    rintro e w2 ⟨rfl, hb2⟩
    have HB2 : Hid (Below w0.heap.size w0 w2) := HB1.out.trans (hb2.mono HB1.out.size)
    clear hb2 p0 p1 p2 p3 p4 k0 k1 k2 k3 s1
    obtain ⟨⟨p0, p1, p2, p3, p4⟩, _⟩ := row_five (blk_keep HB2.out HX.out)
    obtain ⟨k0, k1, k2, k3⟩ := row_four (blk_keep HB2.out HY.out)
    have s1 := ckB HS.out HB2.out
    cases b1
    · go_wp2
      go_ret
      exact ⟨.inl ⟨by rw [H0.out, H1.out]; rfl, rfl⟩, HB.out.trans (HB2.out.mono HB.out.size)⟩
    · go_wp2_with fail
      refine (idxV_any kind W.heap.size _ _ _ _ va vc vs hv w2 (blk_keep HB2.out HX.out) (HV.out.keep HB2.out)).mono ?_
      rintro e w3 ⟨⟨r, rfl, hr⟩, hb3⟩
      have HB3 : Hid (Below w0.heap.size w0 w3) := HB2.out.trans (hb3.mono HB2.out.size)
      have HI : Hid (Idx (badV kind) vs r) := hr
      clear hb3 p0 p1 p2 p3 p4 k0 k1 k2 k3 s1 hr
      have s2 := ckB HK.out HB3.out
      rcases HI.out with ⟨rfl, hall⟩ | ⟨p, hp, rfl, hbad, hf⟩
      · have HA : Hid _ := hall
        clear hall
        go_wp2
        go_ret
        exact ⟨.inr ⟨by rw [H0.out, H1.out]; rfl, .inl ⟨HA.out, rfl⟩⟩, HB.out.trans (HB3.out.mono HB.out.size)⟩
      · have HA : Hid _ := hbad
        have HF : Hid _ := hf
        clear hbad hf
        have q1 : decide ((0 : Int) ≤ (p : Int)) = true := by rw [decide_eq_true_iff]; omega
        go_wp2
        go_ret
        refine ⟨.inr ⟨by rw [H0.out, H1.out]; rfl, .inr ⟨p, hp, HA.out, fun j h hj => HF.out j hj, w3.heap.size, (HB.out.trans (HB3.out.mono HB.out.size)).size, rfl, ?_, ?_⟩⟩, (HB.out.trans (HB3.out.mono HB.out.size)).alloc (HB.out.trans (HB3.out.mono HB.out.size)).size _⟩
        · exact cell_alloc_at rfl rfl
        · exact cell_alloc_at rfl rfl
end Go.Proofs.YtbicfjimlpdnkaaGreatDoor

namespace Go.Proofs.YtbicfjimlpdnkaaGreatDoor
open Go.RowKit
theorem cntE_succ (md : Int) (xs : List Int) (i : Nat) (h : i < xs.length) : cntE md (xs.take (i + 1)) = cntE md (xs.take i) + if xs[i] = md then 1 else 0 := by
  rw [cntE, cntE, List.take_succ_eq_append_getElem h, List.filter_append, List.length_append]
  congr 1
  by_cases e : xs[i] = md
  · simp [List.filter, e]
  · have e2 : (xs[i] == md) = false := by simp [e]
    simp [List.filter, e, e2]
theorem cntE_le (md : Int) (xs : List Int) (i : Nat) : cntE md (xs.take i) ≤ i := Nat.le_trans (List.length_filter_le _ _) (by simp; omega)
/-- The first place at which more records than these have begun; the length, if there is none. -/
def StAt (rs : List Int) (rec : Int) (a : Nat) : Prop := a ≤ rs.length ∧ (∀ j, j < a → (cntE 0 (rs.take (j + 1)) : Int) ≤ rec) ∧ (a < rs.length → rec < (cntE 0 (rs.take (a + 1)) : Int))
set_option maxRecDepth 100000 in
set_option maxHeartbeats 1600000 in
theorem startC_any (r rec : Int) (k : Nat) (g g2 : Nat) (W : World) (hk : k ≤ 1048576) (hg : W.heap[g]? = some (.cells #[.int .i64 k] 3 (0, 0))) (hg2 : W.heap[g2]? = some (.cells #[.int .i64 rec] 3 (0, 0))) (hne : g2 < g) :
    Calls Tryz.prog 105 #[.int .i64 r, .pointer (some ⟨g, 0, none⟩), .pointer (some ⟨g2, 0, none⟩)] W fun e w' => e = .returned (.bool (decide (rec < ((k + if r = 0 then 1 else 0 : Nat) : Int)))) ∧ w'.heap[g]? = some (.cells #[.int .i64 ((k + if r = 0 then 1 else 0 : Nat) : Int)] 3 (0, 0)) ∧ Below g W w' := by
  obtain ⟨c0, f0⟩ := row_one hg
  obtain ⟨d0, _⟩ := row_one hg2
  have HG : Hid _ := hg
  have HG2 : Hid _ := hg2
  clear hg hg2
  by_cases hr : r = 0
  · subst hr
    have HE : Hid ((k + if (0 : Int) = 0 then 1 else 0) = k + 1) := (by show _ = _; simp)
    have HS : Hid ((W.setCell ⟨g, 0, none⟩ (.int .i64 ((k : Int) + 1))).heap[g]? = some (.cells #[.int .i64 ((k : Int) + 1)] 3 (0, 0))) := row_setCell HG.out _
    have HB : Hid (Below g W (W.setCell ⟨g, 0, none⟩ (.int .i64 ((k : Int) + 1)))) := (Below.refl _ _).setCell (by simp) _
    obtain ⟨e0, _⟩ := row_one HS.out
    obtain ⟨e1, _⟩ := row_one ((HB.out.block g2 hne).trans HG2.out)
    rw [HE.out]
    go_enter Tryz.func105, Tryz.ntmps105
    go_wp2
    go_ret
    refine ⟨?_, ?_, ?_⟩
    · simp
    · simpa using HS.out
    · exact HB.out
  · have HE : Hid ((k + if r = 0 then 1 else 0) = k) := (by show _ = _; simp [hr])
    rw [HE.out]
    have q : (r == 0) = false := by simp [hr]
    clear hr
    go_enter Tryz.func105, Tryz.ntmps105
    go_wp2
    go_ret
    exact ⟨rfl, HG.out, Below.refl _ _⟩
set_option maxRecDepth 100000 in
set_option maxHeartbeats 1600000 in
theorem idxSt_any (rec : Int) (g g2 : Nat) (a : Option Addr) (c : Nat) (xs : List Int) (hn : xs.length ≤ 1048576) (W : World) (hg : W.heap[g]? = some (.cells #[.int .i64 0] 3 (0, 0))) (hg2 : W.heap[g2]? = some (.cells #[.int .i64 rec] 3 (0, 0))) (hne : g2 < g) (hl : ∀ X, Below g W X → Lies X a (i64s xs)) :
    Calls Tryz.prog (104) #[.slice a xs.length c, .func (.func 105) #[] #[.pointer (some ⟨g, 0, none⟩), .pointer (some ⟨g2, 0, none⟩)]] W fun e w' => (∃ r, e = .returned (.int .i64 r) ∧ ((r = -1 ∧ StAt xs rec xs.length) ∨ ∃ i : Nat, i < xs.length ∧ r = i ∧ StAt xs rec i)) ∧ Below g W w' := by
  have HL : Hid (∀ X, Below g W X → Lies X a (i64s xs)) := hl
  have HG2 : Hid (W.heap[g2]? = some (.cells #[.int .i64 rec] 3 (0, 0))) := hg2
  have HG0 : Hid _ := hg
  clear hl hg2 hg
  go_enter Tryz.func104, Tryz.ntmps104
  go_wp2
  go_loopw [8] (fun x wr => ∃ i : Nat, i ≤ xs.length ∧ x = .int .i64 i ∧ Hid (∀ j, j < i → (cntE 0 (xs.take (j + 1)) : Int) ≤ rec) ∧ Hid (wr.heap[g]? = some (.cells #[.int .i64 (cntE 0 (xs.take i) : Nat)] 3 (0, 0))) ∧ Hid (Below g W wr)) (fun x _ => xs.length - (intOf x).toNat)
  case atStart => exact ⟨0, Nat.zero_le _, rfl, fun j h => absurd h (Nat.not_lt_zero _), HG0, Below.refl _ _⟩
  case round =>
    obtain ⟨i, hi, rfl, HA, HG, HB⟩ := hrel
    by_cases hlt : i < xs.length
    · obtain ⟨b, o, rfl, hc⟩ := lies_ints (HL.out wr HB.out) i hlt
      have HS : Hid (cntE 0 (xs.take (i + 1)) = cntE 0 (xs.take i) + if xs[i] = 0 then 1 else 0) := cntE_succ 0 xs i hlt
      have hle := cntE_le 0 xs i
      obtain ⟨k, HK⟩ : ∃ k, Hid (cntE 0 (xs.take i) = k) := ⟨_, rfl⟩
      rw [HK.out] at hle HS HG
      go_wp2_with fail
      refine (startC_any xs[i] rec k g g2 wr (by omega) HG.out ((HB.out.block g2 hne).trans HG2.out) hne).mono ?_
      rw [← HS.out]
      rintro e w1 ⟨rfl, hg1, hb1⟩
      have HG1 : Hid _ := hg1
      have HB1 : Hid (Below g W w1) := HB.out.trans hb1
      clear hg1 hb1 hc
      by_cases hq : rec < (cntE 0 (xs.take (i + 1)) : Int)
      · have HQ : Hid _ := hq
        have q1 : decide (rec < (cntE 0 (xs.take (i + 1)) : Int)) = true := decide_eq_true hq
        clear hq
        go_wp2
        go_ret
        exact ⟨⟨(i : Int), rfl, .inr ⟨i, hlt, rfl, by omega, HA.out, fun _ => HQ.out⟩⟩, HB1.out⟩
      · have q1 : decide (rec < (cntE 0 (xs.take (i + 1)) : Int)) = false := decide_eq_false hq
        have HN : Hid (∀ j, j < i + 1 → (cntE 0 (xs.take (j + 1)) : Int) ≤ rec) := fun j hj => by
          by_cases e : j = i
          · subst e; omega
          · exact HA.out j (by omega)
        clear hq
        go_wp2
        go_roundw
        case rel => exact ⟨i + 1, by omega, by go_num, HN, HG1, HB1⟩
        case measure => simp [intOf]; omega
    · obtain rfl : i = xs.length := by omega
      go_wp2
      go_ret
      exact ⟨⟨-1, rfl, .inl ⟨rfl, Nat.le_refl _, HA.out, fun h => absurd h (Nat.lt_irrefl _)⟩⟩, HB.out⟩
set_option maxRecDepth 100000 in
set_option maxHeartbeats 1600000 in
theorem startOf_any (id rec : Int) (ra : Option Addr) (rs : List Int) (rc : Nat) (da : Option Addr) (qn dc : Nat) (va : Option Addr) (vn vc : Nat) (hn : rs.length ≤ 1048576) (W : World) (hl : Lies W ra (i64s rs)) :
    Calls Tryz.prog 88 #[colV id ra rs.length rc da qn dc va vn vc, .int .i64 rec] W fun e w' => (∃ a : Nat, e = .returned (.int .i64 a) ∧ StAt rs rec a) ∧ Below W.heap.size W w' := by
  have hmf : ∀ (fn : Fn) (first cap : Array Value) (W : World), (Instr.makeFunc fn first cap).run Tryz.prog W = .ok (.func fn first cap) W := fun _ _ _ _ => rfl
  unfold colV
  obtain ⟨w0, HW0, HX, HY, HB⟩ := two_boxes W #[.int .i64 id, .slice ra rs.length rc, .slice da qn dc, .slice va vn vc] #[.int .i64 rec] 42 3
  have hz : w0.heap.size = W.heap.size + 1 + 1 := by rw [← HW0.out]; simp
  have HA : Hid ((w0.alloc (.cells #[.int .i64 0] 3)).heap[W.heap.size + 1 + 1]? = some (.cells #[.int .i64 0] 3 (0, 0))) := (by
    have h := heap_alloc_new w0 (.cells #[.int .i64 0] 3)
    rw [hz] at h
    exact h)
  have hb1 : Below w0.heap.size w0 (w0.alloc (.cells #[.int .i64 0] 3)) := (Below.refl _ _).alloc (Nat.le_refl _) _
  have HB1 : Hid (Below w0.heap.size w0 (w0.alloc (.cells #[.int .i64 0] 3))) := hb1
  have HC : Hid _ := idxSt_any rec (W.heap.size + 1 + 1) (W.heap.size + 1) ra rc rs hn (w0.alloc (.cells #[.int .i64 0] 3)) HA.out (blk_keep hb1 HY.out) (by omega) (fun X hX => (hl.keep HB.out).keep (hb1.trans (hz ▸ hX)))
  have HZ : Hid _ := hz
  clear hl hb1 hz
  go_enter Tryz.func88, Tryz.ntmps88
  go_wp2_with fail
  rw [HW0.out]
  refine Calls.mono HC.out ?_
  rintro e w1 ⟨⟨r, rfl, hr⟩, hb1⟩
  have HB2 : Hid (Below w0.heap.size w0 w1) := HB1.out.trans (HZ.out ▸ hb1)
  have HB3 : Hid (Below W.heap.size W w1) := HB.out.trans (HB2.out.mono HB.out.size)
  obtain ⟨k0, k1, k2, k3⟩ := row_four (blk_keep HB2.out HX.out)
  clear hb1
  rcases hr with ⟨rfl, hs⟩ | ⟨i, hi, rfl, hs⟩
  · have HS : Hid _ := hs
    clear hs
    go_wp2
    go_ret
    exact ⟨⟨rs.length, rfl, HS.out⟩, HB3.out⟩
  · have HS : Hid _ := hs
    have q1 : decide ((i : Int) < 0) = false := by rw [decide_eq_false_iff_not]; omega
    clear hs
    go_wp2
    go_ret
    exact ⟨⟨i, rfl, HS.out⟩, HB3.out⟩
end Go.Proofs.YtbicfjimlpdnkaaGreatDoor

namespace Go.Proofs.YtbicfjimlpdnkaaGreatDoor
open Go.RowKit
theorem own_fresh {w : World} {base e size n : Nat} {v : Value} {xs : List Value} (h : w.ownsRow base e size v n xs) {a : Option Addr} {m c : Nat} (hv : v = .slice a m c) : ∀ p, a = some p → base ≤ p.block := by
  rintro p rfl
  rcases h.2 with ⟨h1, _⟩ | ⟨g, cap, cur, h1, hb, _⟩
  · rw [h1] at hv; simp at hv
  · rw [h1] at hv
    simp only [Value.slice.injEq, Option.some.injEq] at hv
    rw [← hv.1]; exact hb
theorem own_capJ {w : World} {B e size n : Nat} {a : Option Addr} {m c : Nat} {xs : List Value} (h : w.ownsRow B e size (.slice a m c) n xs) : n ≤ c := by
  rcases h.2 with ⟨e, rfl⟩ | ⟨g, cap, cur, e, _, _, hc, _⟩
  · exact Nat.zero_le _
  · injection e with _ e1 e2; subst e2; exact hc
theorem cell_off {w : World} {g j b o : Nat} {v : Value} (h : b ≠ g) : (w.setCell ⟨g, j, none⟩ v).cell? ⟨b, o, none⟩ = w.cell? ⟨b, o, none⟩ := by
  simp only [World.cell?]
  rw [Below.heap_setCell w ⟨g, j, none⟩ v b h]
theorem Lies.off {w : World} {a : Option Addr} {cs : List Value} (h : Lies w a cs) {g j : Nat} {v : Value} (hf : ∀ p, a = some p → g < p.block) : Lies (w.setCell ⟨g, j, none⟩ v) a cs := fun i hi => by
  obtain ⟨b, o, rfl, hc⟩ := h i hi
  exact ⟨b, o, rfl, by rw [cell_off (by have := hf _ rfl; simp at this; omega)]; exact hc⟩
theorem LiesV.off {w : World} {a : Option Addr} {vs : List Vl} (h : LiesV w a vs) {g j : Nat} {v : Value} (hf : ∀ p, a = some p → g < p.block) : LiesV (w.setCell ⟨g, j, none⟩ v) a vs := fun i hi => by
  obtain ⟨b, o, rfl, h0, h1, h2⟩ := h i hi
  have hne : b ≠ g := by have := hf _ rfl; simp at this; omega
  exact ⟨b, o, rfl, by rw [cell_off hne]; exact h0, by rw [cell_off hne]; exact h1, by rw [cell_off hne]; exact h2⟩
/-- append(nil, ints...). -/
theorem wp_app0I {ops : Array Oper} {rest : List Oper} {o : Oper} {a : Act} {Q : Exit → Act → World → Prop} (w : World) (hgd : o.guard = none) (s x : Operand)
    (ho : o.op = .call { callee := .builtin .append, args := #[s, x], argTypes := #[36, 36] }) (hty : o.type = 36) (ad : Option Addr) (xs : List Int) (c : Nat)
    (hs : a.eval s = .slice none 0 0) (hx : a.eval x = .slice ad xs.length c) (hl : Lies w ad (i64s xs)) (hn : xs.length ≤ 20000)
    (h : ∀ a' c' w', Lies w' a' (i64s xs) → Below w.heap.size w w' → ((∀ p, a' = some p → w.heap.size ≤ p.block) ∧ xs.length ≤ c') → wpList Tryz.prog ops Q rest (a.put o.dst (.slice a' xs.length c')) w') : wpList Tryz.prog ops Q (o :: rest) a w := by
  obtain ⟨i0, hi, hz0, hz1, hz2⟩ := info_parts Tryz.info3
  cases ad with
  | none =>
    have h0 : xs.length = 0 := by
      by_cases h : 0 < xs.length
      · obtain ⟨b, o, e, _⟩ := hl 0 (by rw [i64s_len]; exact h)
        cases e
      · omega
    obtain rfl : xs = [] := List.eq_nil_of_length_eq_zero h0
    have hap : (Builtin.append_ #[36, 36] 36 #[.slice none 0 0, .slice none 0 c]).run Tryz.prog w = .ok (.slice none 0 0) w := by
      simp [Builtin.append_, run_underlying Tryz.underlying36, sizeOf, typeInfo, hi, Builtin.lenOf, Builtin.firstCells]
    exact Lib.wpList_append_run w hgd s x 36 36 ho _ _ hs hx _ _ (by rw [hty]; exact hap) (h none 0 w hl (Below.refl _ _) ⟨fun p hp => (by cases hp), Nat.le_refl _⟩)
  | some ad =>
    have hn' : ∀ j u, (i64s xs)[j]? = some u → w.cell? (ad.add j) = some u := fun j u hu => by
      obtain ⟨hj, rfl⟩ := List.getElem?_eq_some_iff.1 hu
      obtain ⟨b, o, e, hc⟩ := hl j hj
      obtain rfl := Option.some.inj e
      rw [addr_add]; exact hc
    refine wpList_append_own w hgd s x 36 ho w.heap.size 3 i0 (.int .i64 0) 1 8 Tryz.underlying36 hi hz0 hz1 hz2 rfl (by decide) (.slice none 0 0) 0 [] hs (World.ownsRow_nil w w.heap.size 3 1) ad xs.length c (i64s xs) hx (by rw [i64s_len, Nat.mul_one]) hn' (by intro u hu; obtain ⟨x, _, rfl⟩ := List.mem_map.1 hu; rfl) (by unfold maxLen; omega) (by omega) (Nat.le_refl _) ?_
    intro v' w1 hown hgrow _
    obtain ⟨a', c', hve, hl'⟩ := lies_own hown
    have hfr := own_fresh hown hve
    subst hve
    have hcp := own_capJ hown
    rw [Nat.zero_add] at hcp
    rw [List.nil_append] at hl'
    have h2 := h a' c' w1 hl' ((Below.refl _ _).grown hgrow (Nat.le_refl _) (fun k hk => by simp [Value.ownBlock] at hk)) ⟨hfr, hcp⟩
    rw [List.nil_append, i64s_len]
    exact h2
/-- append(nil, values...). -/
theorem wp_app0V {ops : Array Oper} {rest : List Oper} {o : Oper} {a : Act} {Q : Exit → Act → World → Prop} (w : World) (hgd : o.guard = none) (s x : Operand)
    (ho : o.op = .call { callee := .builtin .append, args := #[s, x], argTypes := #[40, 40] }) (hty : o.type = 40) (ad : Option Addr) (vs : List Vl) (c : Nat)
    (hs : a.eval s = .slice none 0 0) (hx : a.eval x = .slice ad vs.length c) (hl : LiesV w ad vs) (hn : vs.length ≤ 20000)
    (h : ∀ a' c' w', LiesV w' a' vs → Below w.heap.size w w' → ((∀ p, a' = some p → w.heap.size ≤ p.block) ∧ vs.length ≤ c') → wpList Tryz.prog ops Q rest (a.put o.dst (.slice a' vs.length c')) w') : wpList Tryz.prog ops Q (o :: rest) a w := by
  obtain ⟨i0, hi, hz0, hz1, hz2⟩ := info_parts Tryz.infoV
  cases ad with
  | none =>
    have h0 : vs.length = 0 := by
      by_cases h : 0 < vs.length
      · obtain ⟨b, o, e, _⟩ := hl 0 h
        cases e
      · omega
    obtain rfl : vs = [] := List.eq_nil_of_length_eq_zero h0
    have hap : (Builtin.append_ #[40, 40] 40 #[.slice none 0 0, .slice none 0 c]).run Tryz.prog w = .ok (.slice none 0 0) w := by
      simp [Builtin.append_, run_underlying Tryz.underlying40, sizeOf, typeInfo, hi, Builtin.lenOf, Builtin.firstCells]
    exact Lib.wpList_append_run w hgd s x 40 40 ho _ _ hs hx _ _ (by rw [hty]; exact hap) (h none 0 w hl (Below.refl _ _) ⟨fun p hp => (by cases hp), Nat.le_refl _⟩)
  | some ad =>
    have hn' : ∀ j u, (vcells vs)[j]? = some u → w.cell? (ad.add j) = some u := fun j u hu => by
      obtain ⟨i, r, hi, rfl, hr⟩ := vcells_cell vs j u hu
      obtain ⟨b, o, e, h0, h1, h2⟩ := hl i hi
      obtain rfl := Option.some.inj e
      rw [addr_up]
      rcases hr with ⟨rfl, rfl⟩ | ⟨rfl, rfl⟩ | ⟨rfl, rfl⟩
      · exact h0
      · rw [← Nat.add_assoc]; exact h1
      · rw [← Nat.add_assoc]; exact h2
    refine wpList_append_own w hgd s x 40 ho w.heap.size 56 i0 (.agg #[.int .i64 0, .int .i64 0, .string ⟨#[]⟩]) 3 32 Tryz.underlying40 hi hz0 hz1 hz2 rfl (by decide) (.slice none 0 0) 0 [] hs (World.ownsRow_nil w w.heap.size 56 3) ad vs.length c (vcells vs) hx (vcells_len vs) hn' (by intro u hu; obtain ⟨x, _, hx⟩ := List.mem_flatMap.1 hu; simp at hx; rcases hx with rfl | rfl | rfl <;> rfl) (by unfold maxLen; omega) (by omega) (Nat.le_refl _) ?_
    intro v' w1 hown hgrow _
    rw [List.nil_append] at hown
    obtain ⟨a', c', hve, hl'⟩ := liesV_own hown
    have hfr := own_fresh hown hve
    subst hve
    have hcp := own_capJ hown
    rw [Nat.zero_add] at hcp
    exact h a' c' w1 hl' ((Below.refl _ _).grown hgrow (Nat.le_refl _) (fun k hk => by simp [Value.ownBlock] at hk)) ⟨hfr, hcp⟩
end Go.Proofs.YtbicfjimlpdnkaaGreatDoor

namespace Go.Proofs.YtbicfjimlpdnkaaGreatDoor
open Go.RowKit
theorem row_fourA {w : World} {g e : Nat} {x0 x1 x2 x3 : Value} (h : w.heap[g]? = some (.cells #[x0, x1, x2, x3] e (0, 0))) :
    w.frozen? ⟨g, 0, none⟩ = false ∧ w.frozen? ⟨g, 1, none⟩ = false ∧ w.frozen? ⟨g, 2, none⟩ = false ∧ w.frozen? ⟨g, 3, none⟩ = false := by
  refine ⟨?_, ?_, ?_, ?_⟩ <;> simp [World.frozen?, h]
structure OCs (W : World) (id : Int) (rv dv vv x1 x2 x3 : Value) (wr : World) : Prop where
  p : wr.heap[W.heap.size]? = some (.cells #[.int .i64 id, rv, dv, vv] 42 (0, 0))
  z : wr.heap[W.heap.size + 1]? = some (.cells #[.int .i64 0, .slice none 0 0, .slice none 0 0, .slice none 0 0] 42 (0, 0))
  o : wr.heap[W.heap.size + 1 + 1]? = some (.cells #[.int .i64 id, x1, x2, x3] 42 (0, 0))
  old : Below W.heap.size W wr
theorem OCs.keep {W : World} {id : Int} {rv dv vv x1 x2 x3 : Value} {wr w' : World} (h : OCs W id rv dv vv x1 x2 x3 wr) (hb : Below wr.heap.size wr w') : OCs W id rv dv vv x1 x2 x3 w' :=
  ⟨blk_keep hb h.p, blk_keep hb h.z, blk_keep hb h.o, h.old.trans (hb.mono h.old.size)⟩
theorem OCs.s1 {W : World} {id : Int} {rv dv vv x1 x2 x3 : Value} {wr : World} (h : OCs W id rv dv vv x1 x2 x3 wr) (v : Value) : OCs W id rv dv vv v x2 x3 (wr.setCell ⟨W.heap.size + 1 + 1, 1, none⟩ v) :=
  ⟨blk_other h.p (by omega) v, blk_other h.z (by omega) v, row_setCell h.o v, h.old.setCell (by simp; omega) _⟩
theorem OCs.s2 {W : World} {id : Int} {rv dv vv x1 x2 x3 : Value} {wr : World} (h : OCs W id rv dv vv x1 x2 x3 wr) (v : Value) : OCs W id rv dv vv x1 v x3 (wr.setCell ⟨W.heap.size + 1 + 1, 2, none⟩ v) :=
  ⟨blk_other h.p (by omega) v, blk_other h.z (by omega) v, row_setCell h.o v, h.old.setCell (by simp; omega) _⟩
theorem OCs.s3 {W : World} {id : Int} {rv dv vv x1 x2 x3 : Value} {wr : World} (h : OCs W id rv dv vv x1 x2 x3 wr) (v : Value) : OCs W id rv dv vv x1 x2 v (wr.setCell ⟨W.heap.size + 1 + 1, 3, none⟩ v) :=
  ⟨blk_other h.p (by omega) v, blk_other h.z (by omega) v, row_setCell h.o v, h.old.setCell (by simp; omega) _⟩
set_option maxRecDepth 100000 in
set_option maxHeartbeats 3200000 in
theorem ownColumn_any (id : Int) (ra da va : Option Addr) (rc dc vc : Nat) (rs ds : List Int) (vs : List Vl) (W : World)
    (mr : rs.length ≤ 20000) (md : ds.length ≤ 20000) (mv : vs.length ≤ 20000) (hr : Lies W ra (i64s rs)) (hd : Lies W da (i64s ds)) (hv : LiesV W va vs) :
    Calls Tryz.prog 22 #[colV id ra rs.length rc da ds.length dc va vs.length vc] W fun e w' => (∃ ra' rc' da' dc' va' vc', e = .returned (colV id ra' rs.length rc' da' ds.length dc' va' vs.length vc') ∧ Lies w' ra' (i64s rs) ∧ Lies w' da' (i64s ds) ∧ LiesV w' va' vs ∧ (rs.length ≤ rc' ∧ ds.length ≤ dc' ∧ vs.length ≤ vc') ∧ (∀ p, ra' = some p → W.heap.size ≤ p.block) ∧ (∀ p, da' = some p → W.heap.size ≤ p.block) ∧ ∀ p, va' = some p → W.heap.size ≤ p.block) ∧ Below W.heap.size W w' := by
  have HO0 : Hid (OCs W id (.slice ra rs.length rc) (.slice da ds.length dc) (.slice va vs.length vc) (.slice none 0 0) (.slice none 0 0) (.slice none 0 0) (((W.alloc (.cells #[.int .i64 id, .slice ra rs.length rc, .slice da ds.length dc, .slice va vs.length vc] 42)).alloc (.cells #[.int .i64 0, .slice none 0 0, .slice none 0 0, .slice none 0 0] 42)).alloc (.cells #[.int .i64 id, .slice none 0 0, .slice none 0 0, .slice none 0 0] 42))) := (by
    refine ⟨blk_alloc (blk_alloc (heap_alloc_new W _)), blk_alloc ?_, ?_, (((Below.refl _ _).alloc (Nat.le_refl _) _).alloc (by simp) _).alloc (by simp; omega) _⟩
    · have h := heap_alloc_new (W.alloc (.cells #[.int .i64 id, .slice ra rs.length rc, .slice da ds.length dc, .slice va vs.length vc] 42)) (.cells #[.int .i64 0, .slice none 0 0, .slice none 0 0, .slice none 0 0] 42)
      rwa [show (W.alloc (.cells #[.int .i64 id, .slice ra rs.length rc, .slice da ds.length dc, .slice va vs.length vc] 42)).heap.size = W.heap.size + 1 by simp] at h
    · have h := heap_alloc_new ((W.alloc (.cells #[.int .i64 id, .slice ra rs.length rc, .slice da ds.length dc, .slice va vs.length vc] 42)).alloc (.cells #[.int .i64 0, .slice none 0 0, .slice none 0 0, .slice none 0 0] 42)) (.cells #[.int .i64 id, .slice none 0 0, .slice none 0 0, .slice none 0 0] 42)
      rwa [show ((W.alloc (.cells #[.int .i64 id, .slice ra rs.length rc, .slice da ds.length dc, .slice va vs.length vc] 42)).alloc (.cells #[.int .i64 0, .slice none 0 0, .slice none 0 0, .slice none 0 0] 42)).heap.size = W.heap.size + 1 + 1 by simp] at h)
  have HR : Hid (Lies W ra (i64s rs)) := hr
  have HD : Hid (Lies W da (i64s ds)) := hd
  have HV : Hid (LiesV W va vs) := hv
  clear hr hd hv
  unfold colV
  go_enter Tryz.func22, Tryz.ntmps22
  go_wp2_with (first | (at_builtin; refine wp_app0I _ rfl _ _ rfl rfl ra rs rc rfl rfl (HR.out.keep HO0.out.old) mr ?_; intro a1 c1 w1 hl1 hb1 hff1; have HCP1 : Hid _ := hff1.2; have hf1 := hff1.1; clear hff1; have HO1 : Hid _ := OCs.keep HO0.out hb1; have HL1 : Hid (Lies w1 a1 (i64s rs)) := hl1; have HF1 : Hid _ := hf1; have HBB1 : Hid _ := hb1; clear hl1 hb1 hf1; obtain ⟨x0, x1, x2, x3⟩ := row_four HO1.out.p; obtain ⟨y0, y1, y2, y3⟩ := row_four HO1.out.o; obtain ⟨z0, z1, z2, z3⟩ := row_fourA HO1.out.o; obtain ⟨m0, m1, m2, m3⟩ := row_fourA HO1.out.z; obtain ⟨e0, e1, e2, e3⟩ := row_four HO1.out.z) | (at_builtin; refine wp_app0I _ rfl _ _ rfl rfl da ds dc rfl rfl (HD.out.keep (OCs.s1 HO1.out _).old) md ?_; intro a2 c2 w2 hl2 hb2 hff2; have HCP2 : Hid _ := hff2.2; have hf2 := hff2.1; clear hff2; have HO2 : Hid _ := OCs.keep (OCs.s1 HO1.out _) hb2; have HL2 : Hid (Lies w2 a2 (i64s ds)) := hl2; have HF2 : Hid _ := hf2; have HBB2 : Hid _ := hb2; clear hl2 hb2 hf2; obtain ⟨x0, x1, x2, x3⟩ := row_four HO2.out.p; obtain ⟨y0, y1, y2, y3⟩ := row_four HO2.out.o; obtain ⟨z0, z1, z2, z3⟩ := row_fourA HO2.out.o; obtain ⟨m0, m1, m2, m3⟩ := row_fourA HO2.out.z; obtain ⟨e0, e1, e2, e3⟩ := row_four HO2.out.z) | (at_builtin; refine wp_app0V _ rfl _ _ rfl rfl va vs vc rfl rfl (HV.out.keep (OCs.s2 HO2.out _).old) mv ?_; intro a3 c3 w3 hl3 hb3 hff3; have HCP3 : Hid _ := hff3.2; have hf3 := hff3.1; clear hff3; have HO3 : Hid _ := OCs.keep (OCs.s2 HO2.out _) hb3; have HL3 : Hid (LiesV w3 a3 vs) := hl3; have HF3 : Hid _ := hf3; have HBB3 : Hid _ := hb3; clear hl3 hb3 hf3; obtain ⟨x0, x1, x2, x3⟩ := row_four HO3.out.p; obtain ⟨y0, y1, y2, y3⟩ := row_four HO3.out.o; obtain ⟨z0, z1, z2, z3⟩ := row_fourA HO3.out.o; obtain ⟨m0, m1, m2, m3⟩ := row_fourA HO3.out.z; obtain ⟨e0, e1, e2, e3⟩ := row_four HO3.out.z))
  have f1 : ∀ p, a1 = some p → W.heap.size + 1 + 1 < p.block := fun p hp => by have := HF1.out p hp; simp at this; omega
  have f2 : ∀ p, a2 = some p → W.heap.size + 1 + 1 < p.block := fun p hp => by have := HF2.out p hp; have h2 := lt_of_block (OCs.s1 HO1.out (.slice a1 rs.length c1)).o; omega
  have f3 : ∀ p, a3 = some p → W.heap.size + 1 + 1 < p.block := fun p hp => by have := HF3.out p hp; have h2 := lt_of_block (OCs.s2 HO2.out (.slice a2 ds.length c2)).o; omega
  have f1' : ∀ p, a1 = some p → W.heap.size + 1 < p.block := fun p hp => by have := f1 p hp; omega
  have f2' : ∀ p, a2 = some p → W.heap.size + 1 < p.block := fun p hp => by have := f2 p hp; omega
  have f3' : ∀ p, a3 = some p → W.heap.size + 1 < p.block := fun p hp => by have := f3 p hp; omega
  exact bodyPost_ret (v := .agg #[.int .i64 id, .slice a1 rs.length c1, .slice a2 ds.length c2, .slice a3 vs.length c3]) (results_cell_row Tryz.results22 _ _ (W.heap.size + 1) 42 #[.int .i64 id, .slice a1 rs.length c1, .slice a2 ds.length c2, .slice a3 vs.length c3] (0, 0) _ rfl (row_setCell (row_setCell (row_setCell (row_setCell (OCs.s3 HO3.out (.slice a3 vs.length c3)).z _) _) _) _) Tryz.underlying42 rfl (by kernel_rfl)) rfl ⟨⟨a1, c1, a2, c2, a3, c3, rfl,
    (((((((HL1.out.off f1).keep HBB2.out).off f1).keep HBB3.out).off f1).off f1').off f1').off f1' |>.off f1', (((((HL2.out.off f2).keep HBB3.out).off f2).off f2').off f2').off f2' |>.off f2', ((((HL3.out.off f3).off f3').off f3').off f3').off f3', ⟨HCP1.out, HCP2.out, HCP3.out⟩, fun p hp => by have := f1 p hp; omega, fun p hp => by have := f2 p hp; omega, fun p hp => by have := f3 p hp; omega⟩, ((((OCs.s3 HO3.out _).old.setCell (by simp) _).setCell (by simp) _).setCell (by simp) _).setCell (by simp) _⟩
end Go.Proofs.YtbicfjimlpdnkaaGreatDoor
