/-
  shred's columns: how many values, how many records; the first wrong value.
  shred's columns: the first wrong value; fits; check.
-/
import Derived.Test.YthlnjnoeaicjjaaDoorQBLeafOf
import Derived.Test.YthlnjnoeaicjjaaDoorQSmall
import Derived.Test.YthlnjnoeaicjjaaDoorQBVal
namespace Go.Proofs.YthlnjnoeaicjjaaDoor
open Go.RowKit
set_option maxRecDepth 100000 in
set_option maxHeartbeats 1600000 in
theorem isMd_any (lv md : Int) (g : Nat) (x0 x1 x2 x4 : Value) (W : World) (hg : W.heap[g]? = some (.cells #[x0, x1, x2, .int .i64 md, x4] 48 (0, 0))) : Calls Tryd.prog 61 #[.int .i64 lv, .pointer (some ⟨g, 0, none⟩)] W fun e w' => e = .returned (.bool (lv == md)) ∧ w' = W := by
  obtain ⟨⟨c0, c1, c2, c3, c4⟩, _⟩ := row_five hg
  clear hg
  go_enter Tryd.func61, Tryd.ntmps61
  go_wp2
  go_ret
  exact ⟨rfl, rfl⟩
set_option maxRecDepth 100000 in
set_option maxHeartbeats 1600000 in
theorem isZero_any (lv : Int) (W : World) : Calls Tryd.prog 42 #[.int .i64 lv] W fun e w' => e = .returned (.bool (lv == 0)) ∧ w' = W := by
  go_enter Tryd.func42, Tryd.ntmps42
  go_wp2
  go_ret
  exact ⟨rfl, rfl⟩
set_option maxRecDepth 100000 in
set_option maxHeartbeats 1600000 in
theorem howManyV_any (md : Int) (g : Nat) (x0 x1 x2 x4 : Value) (a : Option Addr) (c : Nat) (xs : List Int) (hn : xs.length ≤ 1048576) (W : World) (hg : W.heap[g]? = some (.cells #[x0, x1, x2, .int .i64 md, x4] 48 (0, 0))) (hl : Lies W a (i64s xs)) :
    Calls Tryd.prog 41 #[.slice a xs.length c, .func (.func 61) #[] #[.pointer (some ⟨g, 0, none⟩)]] W fun e w' => e = .returned (.int .i64 ((xs.filter (fun x => x == md)).length : Nat)) ∧ w' = W := by
  have HL : Hid (Lies W a (i64s xs)) := hl
  clear hl
  go_enter Tryd.func41, Tryd.ntmps41
  go_wp2
  go_loop [5, 10] (fun y x => ∃ i : Nat, i ≤ xs.length ∧ x = .int .i64 i ∧ y = .int .i64 (((xs.take i).filter (fun x => x == md)).length : Nat)) (fun _ x => xs.length - (intOf x).toNat)
  case atStart => exact ⟨0, Nat.zero_le _, rfl, rfl⟩
  case round =>
    obtain ⟨i, hi, rfl, rfl⟩ := hrel
    have hcl : ((xs.take i).filter (fun x => x == md)).length ≤ i := Nat.le_trans (List.length_filter_le _ _) (by simp; omega)
    obtain ⟨k, hk⟩ : ∃ k, ((xs.take i).filter (fun x => x == md)).length = k := ⟨_, rfl⟩
    by_cases hlt : i < xs.length
    · have HS : Hid (((xs.take (i + 1)).filter (fun x => x == md)).length = k + if (xs[i] == md) = true then 1 else 0) := (by
        show _ = _
        rw [List.take_succ_eq_append_getElem hlt, List.filter_append, List.length_append, hk]
        congr 1
        cases h : (xs[i] == md) <;> simp [List.filter, h])
      rw [hk] at hcl ⊢
      obtain ⟨b, o, rfl, hc⟩ := HL.out i (by simpa [i64s] using hlt)
      have hc' : W.cell? ⟨b, o + i, none⟩ = some (.int .i64 xs[i]) := by rw [hc]; simp [i64s]
      clear hc hk
      go_wp2_with fail
      refine (isMd_any xs[i] md g x0 x1 x2 x4 W hg).mono ?_
      rintro e w1 ⟨rfl, rfl⟩
      cases hq : (xs[i] == md) with
      | true =>
        have HN : Hid (((xs.take (i + 1)).filter (fun x => x == md)).length = k + 1) := (by show _ = _; rw [HS.out, hq]; rfl)
        clear hq
        go_wp2
        go_round
        case rel => exact ⟨i + 1, by omega, by go_num, by rw [HN.out]; go_num⟩
        case measure => simp [intOf]; omega
      | false =>
        have HN : Hid (((xs.take (i + 1)).filter (fun x => x == md)).length = k) := (by show _ = _; rw [HS.out, hq]; rfl)
        clear hq
        go_wp2
        go_round
        case rel => exact ⟨i + 1, by omega, by go_num, by rw [HN.out]⟩
        case measure => simp [intOf]; omega
    · obtain rfl : i = xs.length := by omega
      rw [List.take_length] at *
      go_wp2
      go_ret
      exact ⟨rfl, rfl⟩
set_option maxRecDepth 100000 in
set_option maxHeartbeats 1600000 in
theorem howManyC_any (a : Option Addr) (c : Nat) (xs : List Int) (hn : xs.length ≤ 1048576) (W : World) (hl : Lies W a (i64s xs)) :
    Calls Tryd.prog 41 #[.slice a xs.length c, .func (.func 42) #[] #[]] W fun e w' => e = .returned (.int .i64 ((xs.filter (fun x => x == 0)).length : Nat)) ∧ w' = W := by
  have HL : Hid (Lies W a (i64s xs)) := hl
  clear hl
  go_enter Tryd.func41, Tryd.ntmps41
  go_wp2
  go_loop [5, 10] (fun y x => ∃ i : Nat, i ≤ xs.length ∧ x = .int .i64 i ∧ y = .int .i64 (((xs.take i).filter (fun x => x == 0)).length : Nat)) (fun _ x => xs.length - (intOf x).toNat)
  case atStart => exact ⟨0, Nat.zero_le _, rfl, rfl⟩
  case round =>
    obtain ⟨i, hi, rfl, rfl⟩ := hrel
    have hcl : ((xs.take i).filter (fun x => x == 0)).length ≤ i := Nat.le_trans (List.length_filter_le _ _) (by simp; omega)
    obtain ⟨k, hk⟩ : ∃ k, ((xs.take i).filter (fun x => x == 0)).length = k := ⟨_, rfl⟩
    by_cases hlt : i < xs.length
    · have HS : Hid (((xs.take (i + 1)).filter (fun x => x == 0)).length = k + if (xs[i] == 0) = true then 1 else 0) := (by
        show _ = _
        rw [List.take_succ_eq_append_getElem hlt, List.filter_append, List.length_append, hk]
        congr 1
        cases h : (xs[i] == 0) <;> simp [List.filter, h])
      rw [hk] at hcl ⊢
      obtain ⟨b, o, rfl, hc⟩ := HL.out i (by simpa [i64s] using hlt)
      have hc' : W.cell? ⟨b, o + i, none⟩ = some (.int .i64 xs[i]) := by rw [hc]; simp [i64s]
      clear hc hk
      go_wp2_with fail
      refine (isZero_any xs[i] W).mono ?_
      rintro e w1 ⟨rfl, rfl⟩
      cases hq : (xs[i] == 0) with
      | true =>
        have HN : Hid (((xs.take (i + 1)).filter (fun x => x == 0)).length = k + 1) := (by show _ = _; rw [HS.out, hq]; rfl)
        clear hq
        go_wp2
        go_round
        case rel => exact ⟨i + 1, by omega, by go_num, by rw [HN.out]; go_num⟩
        case measure => simp [intOf]; omega
      | false =>
        have HN : Hid (((xs.take (i + 1)).filter (fun x => x == 0)).length = k) := (by show _ = _; rw [HS.out, hq]; rfl)
        clear hq
        go_wp2
        go_round
        case rel => exact ⟨i + 1, by omega, by go_num, by rw [HN.out]⟩
        case measure => simp [intOf]; omega
    · obtain rfl : i = xs.length := by omega
      rw [List.take_length] at *
      go_wp2
      go_ret
      exact ⟨rfl, rfl⟩
/-- How many of these levels are one. -/
def cntE (md : Int) (xs : List Int) : Nat := (xs.filter (fun x => x == md)).length
set_option maxRecDepth 100000 in
set_option maxHeartbeats 1600000 in
theorem valuesOf_any (id kind mr md : Int) (pa : Option Addr) (pn pc : Nat) (a : Option Addr) (c : Nat) (xs : List Int) (hn : xs.length ≤ 1048576) (W : World) (hl : Lies W a (i64s xs)) :
    Calls Tryd.prog 40 #[leafV id kind mr md pa pn pc, .slice a xs.length c] W fun e w' => e = .returned (.int .i64 (cntE md xs : Nat)) ∧ Below W.heap.size W w' := by
  have hb : Below W.heap.size W (W.alloc (.cells #[.int .i64 id, .int .i64 kind, .int .i64 mr, .int .i64 md, .slice pa pn pc] 48)) := (Below.refl _ _).alloc (Nat.le_refl _) _
  have HC : Hid _ := howManyV_any md W.heap.size _ _ _ _ a c xs hn _ (heap_alloc_new W (.cells #[.int .i64 id, .int .i64 kind, .int .i64 mr, .int .i64 md, .slice pa pn pc] 48)) (hl.keep hb)
  have HB : Hid _ := hb
  have hmf : ∀ (fn : Fn) (first cap : Array Value) (W : World), (Instr.makeFunc fn first cap).run Tryd.prog W = .ok (.func fn first cap) W := fun _ _ _ _ => rfl
  clear hl hb
  unfold leafV
  go_enter Tryd.func40, Tryd.ntmps40
  go_wp2_with fail
  refine Calls.mono HC.out ?_
  rintro e w1 ⟨rfl, rfl⟩
  go_wp2
  go_ret
  exact ⟨rfl, HB.out⟩
/-- A column as a value. -/
abbrev colV (id : Int) (ra : Option Addr) (rn rc : Nat) (da : Option Addr) (dn dc : Nat) (va : Option Addr) (vn vc : Nat) : Value := .agg #[.int .i64 id, .slice ra rn rc, .slice da dn dc, .slice va vn vc]
set_option maxRecDepth 100000 in
set_option maxHeartbeats 1600000 in
theorem count_any (id : Int) (ra : Option Addr) (rs : List Int) (rc : Nat) (da : Option Addr) (dn dc : Nat) (va : Option Addr) (vn vc : Nat) (hn : rs.length ≤ 1048576) (W : World) (hl : Lies W ra (i64s rs)) :
    Calls Tryd.prog 27 #[colV id ra rs.length rc da dn dc va vn vc] W fun e w' => e = .returned (.int .i64 (cntE 0 rs : Nat)) ∧ Below W.heap.size W w' := by
  have hb : Below W.heap.size W (W.alloc (.cells #[.int .i64 id, .slice ra rs.length rc, .slice da dn dc, .slice va vn vc] 44)) := (Below.refl _ _).alloc (Nat.le_refl _) _
  have HC : Hid _ := howManyC_any ra rc rs hn _ (hl.keep hb)
  have HB : Hid _ := hb
  clear hl hb
  unfold colV
  go_enter Tryd.func27, Tryd.ntmps27
  go_wp2_with fail
  refine Calls.mono HC.out ?_
  rintro e w1 ⟨rfl, rfl⟩
  go_wp2
  go_ret
  exact ⟨rfl, HB.out⟩
end Go.Proofs.YthlnjnoeaicjjaaDoor

namespace Go.Proofs.YthlnjnoeaicjjaaDoor
open Go.RowKit
/-- A value that is none of the kind. -/
def badV (kind : Int) (v : Vl) : Bool := !(v.k == kind) || !(okV v.k v.k v.n v.s.size)
set_option maxRecDepth 100000 in
set_option maxHeartbeats 1600000 in
theorem badV_any (kind k n : Int) (s : ByteArray) (g : Nat) (x0 x2 x3 x4 : Value) (W : World) (hg : W.heap[g]? = some (.cells #[x0, .int .i64 kind, x2, x3, x4] 48 (0, 0))) :
    Calls Tryd.prog 46 #[.agg #[.int .i64 k, .int .i64 n, .string s], .pointer (some ⟨g, 0, none⟩)] W fun e w' => e = .returned (.bool (badV kind ⟨k, n, s⟩)) ∧ Below W.heap.size W w' := by
  have HB : Hid (Below W.heap.size W (W.alloc (.cells #[.int .i64 k, .int .i64 n, .string s] 23))) := (Below.refl _ _).alloc (Nat.le_refl _) _
  obtain ⟨⟨p0, p1, p2, p3, p4⟩, _⟩ := row_five (blk_alloc (o' := .cells #[.int .i64 k, .int .i64 n, .string s] 23) hg)
  obtain ⟨b3, H3⟩ : ∃ b3, Hid (okV k k n s.size = b3) := ⟨_, rfl⟩
  clear hg
  by_cases hk : k = kind
  · subst hk
    have HE : Hid (badV k ⟨k, n, s⟩ = !b3) := (by show _ = _; rw [badV, H3.out]; simp)
    go_enter Tryd.func46, Tryd.ntmps46
    go_wp2_with fail
    refine (isValue_any k n s _).mono ?_
    rw [H3.out]
    rintro e w1 ⟨rfl, hb1⟩
    have HB1 : Hid (Below W.heap.size W w1) := HB.out.trans (hb1.mono HB.out.size)
    clear hb1
    go_wp2
    go_ret
    exact ⟨by rw [HE.out]; rfl, HB1.out⟩
  · have q1 : (k == kind) = false := by simp [hk]
    have HE : Hid (badV kind ⟨k, n, s⟩ = true) := (by show _ = _; rw [badV]; simp [hk])
    clear hk
    go_enter Tryd.func46, Tryd.ntmps46
    go_wp2
    go_ret
    exact ⟨by rw [HE.out]; rfl, HB.out⟩
set_option maxRecDepth 100000 in
set_option maxHeartbeats 1600000 in
/-- slices.IndexFunc over values: the first wrong one. -/
theorem idxV_any (kind : Int) (g : Nat) (x0 x2 x3 x4 : Value) (a : Option Addr) (c : Nat) (vs : List Vl) (hn : vs.length ≤ 1048576) (W : World) (hg : W.heap[g]? = some (.cells #[x0, .int .i64 kind, x2, x3, x4] 48 (0, 0))) (hl : LiesV W a vs) :
    Calls Tryd.prog (45) #[.slice a vs.length c, .func (.func 46) #[] #[.pointer (some ⟨g, 0, none⟩)]] W fun e w' => (∃ r, e = .returned (.int .i64 r) ∧ Idx (badV kind) vs r) ∧ Below W.heap.size W w' := by
  have HL : Hid (LiesV W a vs) := hl
  have HG : Hid (W.heap[g]? = some (.cells #[x0, .int .i64 kind, x2, x3, x4] 48 (0, 0))) := hg
  clear hl hg
  go_enter Tryd.func45, Tryd.ntmps45
  go_wp2
  go_loopw [8] (fun x wr => ∃ i : Nat, i ≤ vs.length ∧ x = .int .i64 i ∧ Hid (∀ j (h : j < vs.length), j < i → badV kind vs[j] = false) ∧ Below W.heap.size W wr) (fun x _ => vs.length - (intOf x).toNat)
  case atStart => exact ⟨0, Nat.zero_le _, rfl, fun j _ h => absurd h (Nat.not_lt_zero _), Below.refl _ _⟩
  case round =>
    obtain ⟨i, hi, rfl, HA, hb⟩ := hrel
    have HB : Hid (Below W.heap.size W wr) := hb
    by_cases hlt : i < vs.length
    · obtain ⟨b, o, rfl, d0, d1, d2⟩ := (HL.out.keep hb) i hlt
      have HGr : Hid (wr.heap[g]? = some (.cells #[x0, .int .i64 kind, x2, x3, x4] 48 (0, 0))) := blk_keep hb HG.out
      clear hb
      go_wp2_with fail
      refine (badV_any kind vs[i].k vs[i].n vs[i].s g x0 x2 x3 x4 wr HGr.out).mono ?_
      rintro e w1 ⟨rfl, hb1⟩
      have HB1 : Hid (Below W.heap.size W w1) := HB.out.trans (hb1.mono HB.out.size)
      clear hb1
      cases hq : (badV kind ⟨vs[i].k, vs[i].n, vs[i].s⟩) with
      | true =>
        have HQ : Hid (badV kind vs[i] = true) := hq
        clear hq
        go_wp2
        go_ret
        exact ⟨⟨(i : Int), rfl, .inr ⟨i, hlt, rfl, HQ.out, fun j h => HA.out j (by omega) h⟩⟩, HB1.out⟩
      | false =>
        have HN : Hid (∀ j (h : j < vs.length), j < i + 1 → badV kind vs[j] = false) := fun j h hj => by
          by_cases e : j = i
          · subst e; exact hq
          · exact HA.out j h (by omega)
        clear hq
        go_wp2
        go_roundw
        case rel => exact ⟨i + 1, by omega, by go_num, HN, HB1⟩
        case measure => simp [intOf]; omega
    · obtain rfl : i = vs.length := by omega
      go_wp2
      go_ret
      exact ⟨⟨-1, rfl, .inl ⟨rfl, fun j h => HA.out j h h⟩⟩, hb⟩
/-- Is the first one not 0? -/
def headB : List Int → Bool
  | [] => false
  | r :: _ => !(r == 0)
/-- Do the levels and the number of values fit? -/
def fitB (lid mr md cid : Int) (rs ds : List Int) (nv : Nat) : Bool :=
  if cid ≠ lid ∨ rs.length ≠ ds.length then false
  else if headB rs = true then false
  else if (rs.any fun x => !(btw 0 x mr)) = true ∨ (ds.any fun x => !(btw 0 x md)) = true then false
  else decide (nv = cntE md ds)
theorem headB_at (rs : List Int) (h : 0 < rs.length) : headB rs = !(rs[0] == 0) := by
  cases rs with
  | nil => simp at h
  | cons r rest => rfl
end Go.Proofs.YthlnjnoeaicjjaaDoor
