/-
  data.Text: bytes that are a value.
  data.Text: a value.
-/
import Derived.Test.YtmfijliladancaaGreatDoorXDwA
import Derived.Test.YtmfijliladancaaGreatDoorXBValid
import Derived.Deep.DeepCutAuto
import Derived.Deep.RegionHeld3
import Derived.Test.YtmfijliladancaaGreatDoorShelf
import Derived.Test.YtmfijliladancaaGreatDoorXBOpenNode
namespace Go.Proofs.YtmfijliladancaaGreatDoor
open Go.RowKit
set_option maxRecDepth 100000 in
set_option maxHeartbeats 1600000 in
theorem stands_any (c : UInt8) (W : World) : Calls Tryz.prog 71 #[.int .u8 c.toNat] W fun e w' => e = .returned (.bool (asIs c)) ∧ w' = W := by
  obtain ⟨b, HB⟩ := hid_name (asIs c)
  have HI : Hid (b = decide (32 ≤ c.toNat ∧ c.toNat ≤ 126 ∧ c.toNat ≠ 34 ∧ c.toNat ≠ 92)) := HB.out.symm.trans (asIs_iff c)
  rw [HB.out]
  go_enter Tryz.func71, Tryz.ntmps71
  go_wp2
  all_goals go_ret
  all_goals
    refine ⟨?_, rfl⟩
    rw [HI.out]
    show Ending.returned (Value.bool _) = Ending.returned (Value.bool _)
    congr 2
    rw [Bool.eq_iff_iff]
    simp
    omega
theorem take_next (s : ByteArray) (i : Nat) (h : i < s.size) : s.data.toList.take (i + 1) = s.data.toList.take i ++ [s[i]] := by
  have h2 : i < s.data.toList.length := by rw [Array.length_toList]; exact h
  rw [List.take_succ_eq_append_getElem h2]
  rfl
set_option maxRecDepth 100000 in
set_option maxHeartbeats 6400000 in
theorem appendBytes_any (b : Value) (l : List UInt8) (s : ByteArray) (hs : s.size ≤ 100000) (N : Nat) (W : World) (hN : N ≤ W.heap.size) (hl : l.length + 3 * s.size + 2 ≤ 2000000) (hb : BtR W N b l) :
    Calls Tryz.prog 62 #[b, .string s] W fun e w' => ∃ b', e = .returned b' ∧ ApR W N (l ++ (34 :: (bysT s.data.toList ++ [34]))) b' w' := by
  obtain ⟨i0, hi, hz0, hz1, hz2⟩ := info_parts Tryz.info5
  have HA0 : Hid (ApR W N l b W) := ApR.start hb
  have HA1 : Hid (∀ v, ApR W N l b (W.alloc (.cells #[v] 5))) := fun v => HA0.out.next hN ((Below.refl _ _).alloc (Nat.le_refl _) _)
  clear hb
  go_enter Tryz.func62, Tryz.ntmps62
  go_wp2_with (at_builtin; refine wpList_append_own _ rfl _ _ 48 rfl N 5 i0 (.int .u8 0) 1 1 Tryz.underlying48 hi hz0 hz1 hz2 rfl (by decide) _ _ _ rfl (HA1.out _).row ⟨_, 0, none⟩ 1 1 [.int .u8 34] rfl rfl (byte_cell _ _ _) (by intro u hu; simp at hu; subst hu; rfl) (by unfold maxLen; omega) (by omega) (by simp; omega) ?_; intro b2 w2 hown2 hgrow2 _; have HA2 : Hid (ApR W N (l ++ [34]) b2 w2) := (HA1.out _).one (c := 34) hN hown2 hgrow2)
  go_loopw [0, 11] (fun bv x wr => ∃ i : Nat, i ≤ s.size ∧ x = .int .i64 i ∧ Hid (ApR W N (l ++ (34 :: bysT (s.data.toList.take i))) bv wr)) (fun _ x _ => s.size - (intOf x).toNat)
  case atStart => exact ⟨0, Nat.zero_le _, rfl, HA2.out⟩
  case round =>
    clear HA0 HA1 HA2 hown2 hgrow2
    obtain ⟨i, his, rfl, HA⟩ := hrel
    have hbs : N ≤ wr.heap.size := Nat.le_trans hN HA.out.old.size
    have hbl : (bysT (s.data.toList.take i)).length ≤ 3 * i := by
      have h := bysT_len (s.data.toList.take i)
      rw [List.length_take] at h
      omega
    obtain ⟨tk, HTk⟩ := hid_name (bysT (s.data.toList.take i))
    rw [HTk.out] at HA hbl
    by_cases hlt : i < s.size
    · have HT : Hid (bysT (s.data.toList.take (i + 1)) = tk ++ byT s[i]) := (by
        show _ = _
        rw [take_next s i hlt, bysT_app, HTk.out, bysT, bysT, List.append_nil])
      have HS : Hid (∀ X, Calls Tryz.prog 71 #[.int .u8 s[i].toNat] X fun e w' => e = .returned (.bool (asIs s[i])) ∧ w' = X) := fun X => stands_any s[i] X
      obtain ⟨c, HC⟩ := hid_name s[i]
      have hc : s[i] = c := HC.out
      rw [HC.out] at HT HS
      have HA2 : Hid (∀ v, ApR W N (l ++ (34 :: tk)) u0 (wr.alloc (.cells #[v] 5))) := fun v => HA.out.next hN ((Below.refl _ _).alloc (Nat.le_refl _) _)
      have q7 : decide ((i : Int) < (s.size : Int)) = true := by rw [decide_eq_true_iff]; omega
      go_wp2_with fail
      refine Calls.mono (HS.out _) ?_
      rintro e w1 ⟨rfl, hw⟩
      obtain rfl := hw.symm
      by_cases hst : asIs c = true
      · have HBy : Hid (byT c = [c]) := (by show _ = _; unfold byT; rw [if_pos hst])
        rw [hst]
        go_wp2_with (at_builtin; refine wpList_append_own _ rfl _ _ 48 rfl N 5 i0 (.int .u8 0) 1 1 Tryz.underlying48 hi hz0 hz1 hz2 rfl (by decide) _ _ _ rfl (HA2.out _).row ⟨_, 0, none⟩ 1 1 [.int .u8 c.toNat] rfl rfl (byte_cell _ _ _) (by intro u hu; simp at hu; subst hu; rfl) (by simp only [List.length_append, List.length_cons]; unfold maxLen; omega) (by simp only [List.length_append, List.length_cons]; omega) (by simp; omega) ?_; intro b2 w2 hown2 hgrow2 _; have HA3 : Hid (ApR W N ((l ++ (34 :: tk)) ++ [c]) b2 w2) := (HA2.out _).one (c := c) hN hown2 hgrow2)
        go_roundw
        case rel => exact ⟨i + 1, by omega, by go_num, by
          show ApR _ _ _ _ _
          have h := HA3.out
          rw [HT.out, HBy.out]
          simpa using h⟩
        case measure => simp [intOf]; omega
      · have HBy : Hid (byT c = [92] ++ hx c.toNat 2) := (by show _ = _; unfold byT; rw [if_neg hst]; rfl)
        rw [Bool.not_eq_true] at hst
        rw [hst]
        have hc255 : c.toNat < 256 := c.toNat_lt
        have qw : IntKind.u64.wrap (c.toNat : Int) = ((c.toNat : Nat) : Int) := by rw [IntKind.wrap_u64]; omega
        have HD : Hid (∀ b2 w2, ApR W N ((l ++ (34 :: tk)) ++ [92]) b2 w2 → Calls Tryz.prog 63 #[b2, .int .u64 (c.toNat : Nat), .int .i64 2] w2 fun e w' => ∃ b', e = .returned b' ∧ ApR W N (((l ++ (34 :: tk)) ++ [92]) ++ hx c.toNat 2) b' w') := fun b2 w2 h => (appendDigits_any b2 _ c.toNat 2 (by omega) (by omega) N w2 (Nat.le_trans hN h.old.size) (by simp only [List.length_append, List.length_cons, List.length_nil]; omega) h.row).mono fun e w' hh => (by
          obtain ⟨b', h1, h2⟩ := hh
          exact ⟨b', h1, h.go h2⟩)
        go_upto_region 7 with fail
        have HA3 : Hid (∀ v, ApR W N (l ++ (34 :: tk)) u0 (wr.drew.alloc (.cells #[v] 5))) := fun v => HA.out.next hN ((Below.refl _ _).drew.alloc (Nat.le_refl _) _)
        go_region_law (first
          | (refine step_own_where _ rfl _ _ 48 rfl N 5 i0 (.int .u8 0) 1 1 Tryz.underlying48 hi hz0 hz1 hz2 rfl (by decide) _ _ _ rfl (HA3.out _).row ⟨_, 0, none⟩ 1 1 [.int .u8 92] rfl rfl (byte_cell _ _ _) (by intro u hu; simp at hu; subst hu; rfl) (by simp only [List.length_append, List.length_cons]; unfold maxLen; omega) (by simp only [List.length_append, List.length_cons]; omega) (by simp; omega) (by decide) ?_; intro b2 w2 hown2 hgrow2 _; have HA4 : Hid (ApR W N ((l ++ (34 :: tk)) ++ [92]) b2 w2) := (HA3.out _).one (c := 92) hN hown2 hgrow2)
          | (go_simp; (with_reducible refine Calls.mono (HD.out _ _ HA4.out) ?_); rintro e w3 ⟨b3, rfl, ha3⟩; have HA5 : Hid _ := ha3; clear ha3))
        all_goals
          go_wp2
          go_roundw
          case rel => exact ⟨i + 1, by omega, by go_num, by
            show ApR _ _ _ _ _
            have h := HA5.out
            rw [HT.out, HBy.out]
            simpa using h⟩
          case measure => simp [intOf]; omega
    · obtain rfl : i = s.size := by omega
      have q7 : decide ((s.size : Int) < (s.size : Int)) = false := by simp
      have HTk2 : Hid (tk = bysT s.data.toList) := (by
        show _ = _
        rw [← HTk.out, List.take_of_length_le (by rw [Array.length_toList]; exact Nat.le_refl _)])
      have HA2 : Hid (∀ v, ApR W N (l ++ (34 :: tk)) u0 (wr.alloc (.cells #[v] 5))) := fun v => HA.out.next hN ((Below.refl _ _).alloc (Nat.le_refl _) _)
      go_wp2_with (at_builtin; refine wpList_append_own _ rfl _ _ 48 rfl N 5 i0 (.int .u8 0) 1 1 Tryz.underlying48 hi hz0 hz1 hz2 rfl (by decide) _ _ _ rfl (HA2.out _).row ⟨_, 0, none⟩ 1 1 [.int .u8 34] rfl rfl (byte_cell _ _ _) (by intro u hu; simp at hu; subst hu; rfl) (by simp only [List.length_append, List.length_cons]; unfold maxLen; omega) (by simp only [List.length_append, List.length_cons]; omega) (by simp; omega) ?_; intro b2 w2 hown2 hgrow2 _; have HA3 : Hid (ApR W N ((l ++ (34 :: tk)) ++ [34]) b2 w2) := (HA2.out _).one (c := 34) hN hown2 hgrow2)
      go_ret
      refine ⟨b2, rfl, ?_⟩
      have h := HA3.out
      rw [HTk2.out] at h
      simpa using h
end Go.Proofs.YtmfijliladancaaGreatDoor

namespace Go.Proofs.YtmfijliladancaaGreatDoor
open Go.RowKit
/-- The table of powers of ten lies below. -/
def TabK : Nat → World → Prop := fun N W => Lib.TabBelow Tryz.prog N W "internal/strconv.uint64pow10" .u64 Lib.pow10Tab
theorem tabK_step : ∀ (N : Nat) (X Y : World), TabK N X → Below N X Y → TabK N Y := fun _ _ _ h hb => h.on hb
theorem Dt.In.val {d : Dt} (h : d.In) : d.v.In := by
  cases h with
  | mk no v l f hv hl hf el ef => exact hv
theorem Dt.In.ofL {d : Dt} (h : d.In) : ∀ j (hj : j < d.l.length), d.l[j].In := by
  cases h with
  | mk no v l f hv hl hf el ef => exact el
theorem Dt.In.ofF {d : Dt} (h : d.In) : ∀ j (hj : j < d.f.length), d.f[j].In := by
  cases h with
  | mk no v l f hv hl hf el ef => exact ef
set_option maxRecDepth 100000 in
theorem appendInt_any (b : Value) (l : List UInt8) (n : Int) (h0 : -9223372036854775808 ≤ n) (h1 : n ≤ 9223372036854775807) (N : Nat) (W : World) (hN : N ≤ W.heap.size) (hl : l.length ≤ 2000000) (hb : BtR W N b l) (hk : TabK N W) :
    Calls Tryz.prog 64 #[b, .int .i64 n, .int .i64 10] W fun e w' => ∃ b', e = .returned b' ∧ ApR W N (l ++ Lib.itoa n) b' w' := by
  refine (Tryz.strconv_AppendInt_10 N l.length n h0 h1 b (cellsOf l) W hb hN (by omega) hk).mono ?_
  rintro e w' ⟨b', rfl, h2, h3, h4⟩
  refine ⟨b', rfl, ?_, h3, fun k cs e z hk he => h4 k _ hk (by simp) (fun c fz h => ?_)⟩
  · show w'.ownsRow _ _ _ _ _ _
    rw [List.length_append, cellsOf, List.map_append]
    exact h2
  · injection h with _ h5 _
    exact he h5
theorem ApR.box {W : World} {N : Nat} {l : List UInt8} {b : Value} {w' : World} (h : ApR W N l b w') {k : Nat} {cs : Array Value} {e : TypeId} (hk : W.heap[k]? = some (.cells cs e (0, 0))) (he : e ≠ 5) : w'.heap[k]? = some (.cells cs e (0, 0)) := h.st _ _ _ _ hk he
theorem row_threeB {w : World} {g e : Nat} {x0 x1 x2 : Value} (h : w.heap[g]? = some (.cells #[x0, x1, x2] e (0, 0))) : w.cell? ⟨g, 0, none⟩ = some x0 ∧ w.cell? ⟨g, 1, none⟩ = some x1 ∧ w.cell? ⟨g, 2, none⟩ = some x2 := ⟨cell_of_row w g 0 _ _ _ h, cell_of_row w g 1 _ _ _ h, cell_of_row w g 2 _ _ _ h⟩
set_option maxRecDepth 100000 in
set_option maxHeartbeats 6400000 in
theorem appendValue_any (b : Value) (l : List UInt8) (v : Vl) (hin : v.In) (hok : OkV v.k v.k v.n v.s.size) (N : Nat) (W : World) (hN : N ≤ W.heap.size) (hl : l.length ≤ 1048576) (hb : BtR W N b l) (hkk : TabK N W) :
    Calls Tryz.prog 39 #[b, .agg #[.int .i64 v.k, .int .i64 v.n, .string v.s]] W fun e w' => ∃ b', e = .returned b' ∧ ApR W N (l ++ vx v) b' w' := by
  obtain ⟨k, n, s⟩ := v
  obtain ⟨_, hn, _⟩ := hin
  have hk5 : k = 1 ∨ k = 2 ∨ k = 3 ∨ k = 4 ∨ k = 5 := by
    obtain ⟨_, h⟩ := hok
    rcases h with h | h | h | h
    · exact .inl h.1
    · exact .inr (.inl h.1)
    · rcases h.1 with h | h
      · exact .inr (.inr (.inl h))
      · exact .inr (.inr (.inr (.inr h)))
    · exact .inr (.inr (.inr (.inl h.1)))
  obtain ⟨w0, HW0, HX, HB⟩ := one_box W #[.int .i64 k, .int .i64 n, .string s] 26
  have hsz := HB.out.size
  have hA := (ApR.start hb).next hN HB.out
  have HA : Hid (ApR W N l b w0) := hA
  have HK0 : Hid (TabK N w0) := tabK_step N W w0 hkk (HB.out.mono hN)
  obtain ⟨x0, x1, x2⟩ := row_threeB HX.out
  have ints : ∀ k, (k = 2 ∨ k = 3) → vx ⟨k, n, s⟩ = Lib.itoa n := fun k h => by
    unfold vx
    rcases h with rfl | rfl <;> rfl
  rcases hk5 with rfl | rfl | rfl | rfl | rfl
  · exact appendBool_any b l n s N W hN hl hb
  · rw [ints 2 (.inl rfl)]
    have HC : Hid _ := appendInt_any b l n hn.1 hn.2 N w0 (by omega) (by omega) hA.row HK0.out
    clear hA hb hok ints
    go_enter Tryz.func39, Tryz.ntmps39
    go_upto_region 1 with fail
    rw [HW0.out]
    go_wp2_with fail
    refine Calls.mono HC.out ?_
    rintro e w1 ⟨b1, rfl, ha1⟩
    have HA1 : Hid _ := HA.out.go ha1
    clear ha1
    go_wp2
    go_ret
    exact ⟨b1, rfl, HA1.out⟩
  · rw [ints 3 (.inr rfl)]
    have HC : Hid _ := appendInt_any b l n hn.1 hn.2 N w0 (by omega) (by omega) hA.row HK0.out
    clear hA hb hok ints
    go_enter Tryz.func39, Tryz.ntmps39
    go_upto_region 1 with fail
    rw [HW0.out]
    go_wp2_with fail
    refine Calls.mono HC.out ?_
    rintro e w1 ⟨b1, rfl, ha1⟩
    have HA1 : Hid _ := HA.out.go ha1
    clear ha1
    go_wp2
    go_ret
    exact ⟨b1, rfl, HA1.out⟩
  · have hs : s.size ≤ 100 := by
      obtain ⟨_, h⟩ := hok
      simp at h
      omega
    have HV : Hid (vx ⟨4, n, s⟩ = 34 :: (bysT s.data.toList ++ [34])) := rfl
    rw [HV.out]
    have HC : Hid _ := appendBytes_any b l s (by omega) N w0 (by omega) (by omega) hA.row
    clear hA hb hok ints
    go_enter Tryz.func39, Tryz.ntmps39
    go_upto_region 1 with fail
    rw [HW0.out]
    go_wp2_with fail
    refine Calls.mono HC.out ?_
    rintro e w1 ⟨b1, rfl, ha1⟩
    have HA1 : Hid _ := HA.out.go ha1
    clear ha1
    go_wp2
    go_ret
    exact ⟨b1, rfl, HA1.out⟩
  · have HV : Hid (vx ⟨5, n, s⟩ = [120] ++ hx (Um.u64 n) 16) := rfl
    rw [HV.out]
    obtain ⟨i0, hi, hz0, hz1, hz2⟩ := info_parts Tryz.info5
    have qw : IntKind.u64.wrap n = ((Um.u64 n : Nat) : Int) := by rw [IntKind.wrap_u64, Um.u64_int]
    have HU := Um.u64_lt n
    obtain ⟨u, HUn⟩ := hid_name (Um.u64 n)
    rw [HUn.out] at HU qw ⊢
    have HD : Hid (∀ b2 w2, ApR W N (l ++ [120]) b2 w2 → Calls Tryz.prog 63 #[b2, .int .u64 (u : Nat), .int .i64 16] w2 fun e w' => ∃ b', e = .returned b' ∧ ApR W N ((l ++ [120]) ++ hx u 16) b' w') := fun b2 w2 h => (appendDigits_any b2 _ u 16 HU (by omega) N w2 (Nat.le_trans hN h.old.size) (by simp only [List.length_append, List.length_cons, List.length_nil]; omega) h.row).mono fun e w' hh => (by
      obtain ⟨b', h1, h2⟩ := hh
      exact ⟨b', h1, h.go h2⟩)
    have HA3 : Hid (∀ v, ApR W N l b (w0.drew.alloc (.cells #[v] 5))) := fun v => HA.out.next hN ((Below.refl _ _).drew.alloc (Nat.le_refl _) _)
    have HXb : Hid (∀ v, (w0.drew.alloc (.cells #[v] 5)).heap[W.heap.size]? = some (.cells #[.int .i64 5, .int .i64 n, .string s] 26 (0, 0))) := fun v => blk_alloc (by exact HX.out)
    have x1a : ∀ v, (w0.alloc (.cells #[v] 5)).cell? ⟨W.heap.size, 1, none⟩ = some (.int .i64 n) := fun v => (row_threeB (blk_alloc HX.out)).2.1
    clear hA hb hok ints
    go_enter Tryz.func39, Tryz.ntmps39
    go_upto_region 1 with fail
    rw [HW0.out]
    go_upto_region 7 with fail
    go_region_law (first
      | (refine step_own_where _ rfl _ _ 48 rfl N 5 i0 (.int .u8 0) 1 1 Tryz.underlying48 hi hz0 hz1 hz2 rfl (by decide) _ _ _ rfl (HA3.out _).row ⟨_, 0, none⟩ 1 1 [.int .u8 120] rfl rfl (byte_cell _ _ _) (by intro u hu; simp at hu; subst hu; rfl) (by unfold maxLen; omega) (by omega) (by simp; omega) (by decide) ?_; intro b2 w2 hown2 hgrow2 _; have HA4 : Hid (ApR W N (l ++ [120]) b2 w2) := (HA3.out _).one (c := 120) hN hown2 hgrow2; have x1' : w2.cell? ⟨W.heap.size, 1, none⟩ = some (.int .i64 n) := (row_threeB (StB.grown (HA3.out _).row hgrow2 _ _ _ _ (HXb.out _) (by decide))).2.1)
      | (go_simp; (with_reducible refine Calls.mono (HD.out _ _ HA4.out) ?_); rintro e w3 ⟨b3, rfl, ha3⟩; have HA5 : Hid _ := ha3; clear ha3))
    all_goals
      go_wp2
      go_ret
      exact ⟨b3, rfl, by have h := HA5.out; rw [List.append_assoc] at h; exact h⟩
end Go.Proofs.YtmfijliladancaaGreatDoor
