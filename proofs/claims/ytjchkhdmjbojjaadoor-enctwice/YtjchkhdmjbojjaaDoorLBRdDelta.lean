/-
  enc.ReadDelta: the numbers that bytes say by their differences; they are what writes the same bytes.
  What Delta writes is read: the bytes of numbers by their differences lead back to them.
-/
import Derived.Test.YtjchkhdmjbojjaaDoorLRdSteps
import Derived.Test.YtjchkhdmjbojjaaDoorLRdBools
import Derived.Test.YtjchkhdmjbojjaaDoorLBTwiceMath
namespace Go.Proofs.YtjchkhdmjbojjaaDoor
open Go.RowKit
/-- Which numbers bytes are, by their differences. -/
def IsDl (kd : Int) (s : List UInt8) (n : Nat) (vs : List Vl) : Prop := ∃ xs, rdSteps s n = some xs ∧ xs.length = n ∧ vs = kvs kd xs ∧ (∀ x ∈ xs, -9223372036854775808 ≤ x ∧ x ≤ 9223372036854775807) ∧ (∀ j (h : j < vs.length), vs[j].Ok kd) ∧ deltaB vs = s
theorem bytes_back (s : ByteArray) (l : List UInt8) (h : (⟨l.toArray⟩ : ByteArray) = s) : l = s.data.toList := by
  subst h
  simp
theorem bytes_to (s : ByteArray) (l : List UInt8) (h : l = s.data.toList) : (⟨l.toArray⟩ : ByteArray) = s := by
  subst h
  rfl
set_option maxRecDepth 100000 in
set_option maxHeartbeats 1600000 in
theorem readDelta_any (kd : Int) (s : ByteArray) (n : Nat) (w : World) (st kt : TypeId) (sp kp : Value) (hg : w.cell? ⟨0, 0, none⟩ = some (.iface st sp)) (hgk : w.cell? ⟨2, 0, none⟩ = some (.iface kt kp)) (hs : s.size ≤ 1000000) (hn : n ≤ 20000) (hk : kd = 2 ∨ kd = 3) :
    Calls Tryd.prog 21 #[.int .i64 kd, .string s, .int .i64 n] w fun e w' => RetRd (IsDl kd s.data.toList n) n (.iface st sp) e w' ∧ Below w.heap.size w w' := by
  have HG : Hid _ := hg
  have HGK : Hid _ := hgk
  have HK : Hid (kd = 2 ∨ kd = 3) := hk
  have hd : decide (kd = 2 ∨ kd = 3) = true := by simp [hk]
  have hk1 : 1 ≤ kd ∧ kd ≤ 5 := by omega
  clear hg hgk hk
  go_enter Tryd.func21, Tryd.ntmps21
  go_wp2_with fail
  refine (checkCount_fine kd n w hk1.1 hk1.2 (by omega) (by omega)).mono ?_
  rintro e w1 ⟨rfl, hw⟩
  obtain rfl := hw.symm
  go_wp2_with fail
  refine (hasDelta_any kd _).mono ?_
  rw [hd]
  rintro e w2 ⟨rfl, hw⟩
  obtain rfl := hw.symm
  go_wp2_with fail
  refine (readSteps_any kd s n w st sp HG.out hs hn).mono ?_
  rintro e w1 ⟨⟨xs, a, c, ho, hxl, hin, rfl, hl⟩ | ⟨ho, rfl⟩, hb1⟩
  · have hgk1 := (hb1.cell (World.block_lt_of_cell? w _ HGK.out)).trans HGK.out
    have hg1 := (hb1.cell (World.block_lt_of_cell? w _ HG.out)).trans HG.out
    have HG1 : Hid _ := hg1
    have HL1 : Hid (LiesV w1 a (kvs kd xs)) := hl
    have hvl : (kvs kd xs).length = n := by rw [kvs_len, hxl]
    have HX1 : Hid (∀ j (h : j < (kvs kd xs).length), -9223372036854775808 ≤ (kvs kd xs)[j].n ∧ (kvs kd xs)[j].n ≤ 9223372036854775807) := fun j h => by
      simp only [kvs, List.getElem_map]
      exact hin _ (List.getElem_mem _)
    have HO : Hid (rdSteps s.data.toList n = some xs) := ho
    have HI : Hid (xs.length = n ∧ ∀ x ∈ xs, -9223372036854775808 ≤ x ∧ x ≤ 9223372036854775807) := ⟨hxl, hin⟩
    have HGK1 : Hid _ := hgk1
    clear hg1 hl hin ho hxl hgk1
    by_cases hok : ∀ j (h : j < (kvs kd xs).length), (kvs kd xs)[j].Ok kd
    · have hdr := delta_right a (kvs kd xs) c kd w1 kt kp HGK1.out (by omega) HK.out HL1.out hok HX1.out
      rw [hvl] at hdr
      have HOK : Hid _ := hok
      clear hok
      go_wp2_with fail
      refine hdr.mono ?_
      clear hdr
      rintro e w2 ⟨rfl, hb2⟩
      have hb12 := hb1.trans (hb2.mono hb1.size)
      have hg2 := (hb2.cell (World.block_lt_of_cell? w1 _ HG1.out)).trans HG1.out
      by_cases hq : (⟨(deltaB (kvs kd xs)).toArray⟩ : ByteArray) = s
      · have HI2 : Hid (IsDl kd s.data.toList n (kvs kd xs)) := ⟨xs, HO.out, HI.out.1, rfl, HI.out.2, HOK.out, bytes_back s _ hq⟩
        rw [hq]
        clear hq
        have HL2 : Hid _ := LiesV.keep HL1.out hb2
        go_wp2
        go_ret2
        exact ⟨Or.inl ⟨_, a, c, HI2.out, rfl, HL2.out⟩, hb12⟩
      · have HI2 : Hid (¬ ∃ vs, IsDl kd s.data.toList n vs) := fun ⟨vs, ys, h1, h2, h3, h4, h5, h6⟩ => by
          rw [HO.out] at h1
          injection h1 with h1
          subst h1 h3
          exact hq (bytes_to s _ h6)
        have hq2 : ((⟨(deltaB (kvs kd xs)).toArray⟩ : ByteArray).toList == s.toList) = false := by simp only [beq_eq_false_iff_ne, ne_eq]; exact fun h => hq (str_ext h)
        clear hq
        generalize (⟨(deltaB (kvs kd xs)).toArray⟩ : ByteArray) = t at *
        go_wp2
        go_quiet (fail)
        go_wp2
        go_ret2
        exact ⟨Or.inr ⟨HI2.out, rfl⟩, dN hb12 _⟩
    · have hdf : Calls Tryd.prog 20 #[.int .i64 kd, .slice a n c] w1 fun e w' => (∃ p, e = .returned (.tuple #[.string ⟨#[]⟩, .iface 84 (.pointer (some ⟨p, 0, none⟩))])) ∧ Below w1.heap.size w1 w' := by
        rw [← hvl]
        refine (delta_fault a (kvs kd xs) c kd w1 kt kp HGK1.out (by omega) hk1 HL1.out hok).mono ?_
        rintro e w2 ⟨⟨i, p, hi, rfl, _, _, _, _⟩, hb2⟩
        exact ⟨⟨p, rfl⟩, hb2⟩
      have HI2 : Hid (¬ ∃ vs, IsDl kd s.data.toList n vs) := fun ⟨vs, ys, h1, h2, h3, h4, h5, h6⟩ => by
        rw [HO.out] at h1
        injection h1 with h1
        subst h1 h3
        exact hok h5
      clear hok
      go_wp2_with fail
      refine hdf.mono ?_
      clear hdf
      rintro e w2 ⟨⟨p, rfl⟩, hb2⟩
      have hb12 := hb1.trans (hb2.mono hb1.size)
      have hg2 := (hb2.cell (World.block_lt_of_cell? w1 _ HG1.out)).trans HG1.out
      go_wp2
      go_quiet (fail)
      go_wp2
      go_ret2
      exact ⟨Or.inr ⟨HI2.out, rfl⟩, dN hb12 _⟩
  · have HI2 : Hid (¬ ∃ vs, IsDl kd s.data.toList n vs) := fun ⟨vs, ys, h1, _⟩ => by
      rw [ho] at h1
      cases h1
    clear ho
    go_wp2
    go_ret2
    exact ⟨Or.inr ⟨HI2.out, rfl⟩, hb1⟩
set_option maxRecDepth 100000 in
/-- ReadDelta at a kind that has none. -/
theorem readDelta_kind (kd : Int) (s : ByteArray) (n : Nat) (w : World) (kt : TypeId) (kp : Value) (hgk : w.cell? ⟨2, 0, none⟩ = some (.iface kt kp)) (hn : n ≤ 20000) (hk1 : 1 ≤ kd ∧ kd ≤ 5) (hk : ¬ (kd = 2 ∨ kd = 3)) :
    Calls Tryd.prog 21 #[.int .i64 kd, .string s, .int .i64 n] w fun e w' => e = .returned (.tuple #[.slice none 0 0, .iface kt kp]) ∧ Below w.heap.size w w' := by
  have HGK : Hid _ := hgk
  have hd : decide (kd = 2 ∨ kd = 3) = false := by simp only [decide_eq_false_iff_not]; exact hk
  clear hk
  go_enter Tryd.func21, Tryd.ntmps21
  go_wp2_with fail
  refine (checkCount_fine kd n w hk1.1 hk1.2 (by omega) (by omega)).mono ?_
  rintro e w1 ⟨rfl, hw⟩
  obtain rfl := hw.symm
  go_wp2_with fail
  refine (hasDelta_any kd _).mono ?_
  rw [hd]
  rintro e w2 ⟨rfl, hw⟩
  obtain rfl := hw.symm
  go_wp2
  go_quiet (fail)
  go_wp2
  go_ret2
  exact ⟨rfl, dN (Below.refl _ _) _⟩
set_option maxRecDepth 100000 in
/-- ReadDelta at a kind or a count that is none. -/
theorem readDelta_none (kd : Int) (s : ByteArray) (n : Int) (w : World) (kt bt : TypeId) (kp bp : Value) (hgk : w.cell? ⟨2, 0, none⟩ = some (.iface kt kp)) (hgb : w.cell? ⟨3, 0, none⟩ = some (.iface bt bp)) (h : ¬ ((1 ≤ kd ∧ kd ≤ 5) ∧ 0 ≤ n ∧ n ≤ 20000)) :
    Calls Tryd.prog 21 #[.int .i64 kd, .string s, .int .i64 n] w fun e w' => e = .returned (.tuple #[.slice none 0 0, if 1 ≤ kd ∧ kd ≤ 5 then .iface bt bp else .iface kt kp]) ∧ w' = w := by
  have HGK : Hid _ := hgk
  have HGB : Hid _ := hgb
  have HN : Hid (¬ ((1 ≤ kd ∧ kd ≤ 5) ∧ 0 ≤ n ∧ n ≤ 20000)) := h
  clear hgk hgb h
  by_cases hk : 1 ≤ kd ∧ kd ≤ 5
  · rw [if_pos hk]
    have HK : Hid (1 ≤ kd ∧ kd ≤ 5) := hk
    clear hk
    go_enter Tryd.func21, Tryd.ntmps21
    go_wp2_with fail
    refine (checkCount_bound kd n w _ HGB.out HK.out.1 HK.out.2 (fun h => HN.out ⟨HK.out, h⟩)).mono ?_
    rintro e w1 ⟨rfl, hw⟩
    obtain rfl := hw.symm
    go_wp2
    go_ret2
    exact ⟨rfl, rfl⟩
  · rw [if_neg hk]
    have HK : Hid (¬ (1 ≤ kd ∧ kd ≤ 5)) := hk
    clear hk
    go_enter Tryd.func21, Tryd.ntmps21
    go_wp2_with fail
    refine (checkCount_kind kd n w _ HGK.out HK.out).mono ?_
    rintro e w1 ⟨rfl, hw⟩
    obtain rfl := hw.symm
    go_wp2
    go_ret2
    exact ⟨rfl, rfl⟩
end Go.Proofs.YtjchkhdmjbojjaaDoor

namespace Go.Proofs.YtjchkhdmjbojjaaDoor
open Go.RowKit
theorem bt_nat (x : Nat) (h : x < 256) : (Um.bt (x : Int)).toNat = x := by
  unfold Um.bt
  simp
  omega
theorem rdBk_blk (ds : List Int) (r : List UInt8) (h0 : 0 < ds.length) (hx : ∀ d ∈ ds, -9223372036854775808 ≤ d ∧ d ≤ 9223372036854775807) : rdBk (blkB ds ++ r) ds.length = some (ds, (blkB ds).length) := by
  have hlo := hx _ (lows_in h0)
  obtain ⟨ha1, ha2⟩ := abv_lt hx h0
  have hv := Um.rdv_whole (zig (lows ds)) (Um.bt (wdt ds : Nat) :: Um.lit (Um.num (wdt ds) (abv ds)) ((ds.length * wdt ds + 7) / 8) ++ r) (zig_lt hlo.1 hlo.2)
  have he : blkB ds ++ r = Um.uv (zig (lows ds)) ++ (Um.bt (wdt ds : Nat) :: Um.lit (Um.num (wdt ds) (abv ds)) ((ds.length * wdt ds + 7) / 8) ++ r) := by
    unfold blkB
    rw [List.append_assoc]
  have hp : 0 < (Um.uv (zig (lows ds))).length := Um.uv_pos _
  have hgd : ((blkB ds ++ r).getD (Um.uv (zig (lows ds))).length 0).toNat = wdt ds := by
    rw [he, List.getD_eq_getElem?_getD, List.getElem?_append_right (Nat.le_refl _), Nat.sub_self]
    exact bt_nat _ (by omega)
  have hl : (blkB ds).length = (Um.uv (zig (lows ds))).length + 1 + (ds.length * wdt ds + 7) / 8 := by
    unfold blkB
    rw [List.length_append, List.length_cons, Um.lit_len]
    omega
  have hdr : ((blkB ds ++ r).drop ((Um.uv (zig (lows ds))).length + 1)).take ((ds.length * wdt ds + 7) / 8) = Um.lit (Um.num (wdt ds) (abv ds)) ((ds.length * wdt ds + 7) / 8) := by
    rw [he, ← List.drop_drop, List.drop_left]
    simp only [List.cons_append, List.drop_succ_cons, List.drop_zero]
    exact List.take_left' (Um.lit_len _ _)
  unfold rdBk
  simp only
  rw [show Um.rdv (blkB ds ++ r) 0 0 = (zig (lows ds), (Um.uv (zig (lows ds))).length) by rw [he]; exact hv]
  simp only
  rw [hgd, if_pos ⟨hp, by rw [List.length_append, hl]; omega, ha2, by rw [List.length_append, hl]; omega⟩, hdr, hl, unz_zig]
  have hu : unw (Um.lit (Um.num (wdt ds) (abv ds)) ((ds.length * wdt ds + 7) / 8)) (wdt ds) ds.length = abv ds := by
    have h := Um.unp_packed (wdt ds) (abv ds) ((ds.length * wdt ds + 7) / 8) [] ha1 (by rw [abv_len, Nat.mul_comm]; omega)
    rw [List.append_nil, abv_len] at h
    exact h
  have hb : bkd (lows ds) (Um.lit (Um.num (wdt ds) (abv ds)) ((ds.length * wdt ds + 7) / 8)) (wdt ds) ds.length = ds := by
    unfold bkd
    rw [hu]
    unfold abv
    rw [List.map_map]
    refine (List.map_congr_left (fun d hd => ?_)).trans (List.map_id _)
    have h1 := lows_le hd
    have h2 := hx d hd
    simp only [Function.comp_apply, id_eq]
    unfold wrap64
    omega
  rw [hb]
/-- Differences by blocks. -/
def blks : Nat → List Int → List UInt8
  | 0, _ => []
  | m + 1, es => blkB (es.take 32) ++ blks m (es.drop 32)
theorem stepsB_blks : ∀ (m : Nat) (ds : List Int), stepsB ds m = blks m ds
  | 0, _ => rfl
  | m + 1, ds => by
    have ih := stepsB_blks m (ds.drop 32)
    unfold blks
    rw [← ih]
    unfold stepsB
    rw [List.range_succ_eq_map, List.flatMap_cons, List.flatMap_map]
    congr 1
    refine congrArg (fun f => (List.range m).flatMap f) (funext fun j => ?_)
    unfold stepB
    rw [List.drop_drop]
    congr 3
    omega
theorem rdSt_blks (s : List UInt8) : ∀ (m : Nat) (es : List Int) (f u : Nat) (x : Int), s.drop u = blks m es → es.length ≤ 32 * m → 32 * m < es.length + 32 → es.length ≤ f → (∀ d ∈ es, -9223372036854775808 ≤ d ∧ d ≤ 9223372036854775807) → rdSt s f u x es.length = some (accD x es)
  | 0, es, f, u, x, _, h1, _, _, _ => by
    obtain rfl : es = [] := List.eq_nil_of_length_eq_zero (by omega)
    exact rdSt_zero s f u x
  | m + 1, es, f, u, x, hs, h1, h2, hf, hx => by
    obtain ⟨f, rfl⟩ : ∃ g, f = g + 1 := ⟨f - 1, by omega⟩
    have htl : (es.take 32).length = min 32 es.length := List.length_take
    have hb := rdBk_blk (es.take 32) (blks m (es.drop 32)) (by omega) (fun d hd => hx d (List.mem_of_mem_take hd))
    rw [htl] at hb
    have hs2 : s.drop u = blkB (es.take 32) ++ blks m (es.drop 32) := hs
    have hb2 : rdBk (s.drop u) (min 32 es.length) = some (es.take 32, (blkB (es.take 32)).length) := by rw [hs2]; exact hb
    have ih := rdSt_blks s m (es.drop 32) f (u + (blkB (es.take 32)).length) (lastOf x (es.take 32)) (by rw [← List.drop_drop, hs2, List.drop_left]) (by rw [List.length_drop]; omega) (by rw [List.length_drop]; omega) (by rw [List.length_drop]; omega) (fun d hd => hx d (List.mem_of_mem_drop hd))
    rw [rdSt_some (by omega) hb2]
    rw [show es.length - min 32 es.length = (es.drop 32).length by rw [List.length_drop]; omega, ih]
    show some (accD x (es.take 32) ++ accD (lastOf x (es.take 32)) (es.drop 32)) = _
    rw [← accD_app, List.take_append_drop]
theorem accD_difs : ∀ (xs : List Int) (x : Int), (∀ y ∈ x :: xs, -9223372036854775808 ≤ y ∧ y ≤ 9223372036854775807) → accD x ((List.range xs.length).map fun j => wrap64 ((x :: xs).getD (j + 1) 0 - (x :: xs).getD j 0)) = xs
  | [], x, _ => rfl
  | y :: xs, x, h => by
    have hx := h x (by simp)
    have hy := h y (by simp)
    rw [List.length_cons, List.range_succ_eq_map, List.map_cons, List.map_map]
    unfold accD
    have e : wrap64 (x + wrap64 ((x :: y :: xs).getD (0 + 1) 0 - (x :: y :: xs).getD 0 0)) = y := by
      simp only [List.getD_cons_succ, List.getD_cons_zero, Nat.zero_add]
      unfold wrap64
      omega
    rw [e]
    congr 1
    exact accD_difs xs y (fun z hz => h z (by simp only [List.mem_cons] at hz ⊢; exact Or.inr hz))
/-- What Delta writes of right values is read as them. -/
theorem isDl_delta {kd : Int} {vs : List Vl} (hk : kd = 2 ∨ kd = 3) (hr : Right kd vs) : IsDl kd (deltaB vs) vs.length vs := by
  have hkv : vs = kvs kd (vs.map (·.n)) := by
    unfold kvs
    rw [List.map_map]
    refine ((List.map_congr_left (fun v hv => ?_)).trans (List.map_id _)).symm
    have ho := (hr.2 v hv).1
    unfold Vl.Ok OkV at ho
    obtain ⟨k, n, s⟩ := v
    simp only [Function.comp_apply, id_eq] at ho ⊢
    have h0 : s = ⟨#[]⟩ := by
      have hz : s.size = 0 := by omega
      exact ByteArray.ext (Array.eq_empty_of_size_eq_zero hz)
    rw [ho.1, h0]
  have hin : ∀ x ∈ vs.map (·.n), -9223372036854775808 ≤ x ∧ x ≤ 9223372036854775807 := fun x hx => by
    obtain ⟨v, hv, rfl⟩ := List.mem_map.1 hx
    exact (hr.2 v hv).2.2.1
  refine ⟨vs.map (·.n), ?_, by simp, hkv, hin, fun j h => (hr.2 _ (List.getElem_mem h)).1, rfl⟩
  unfold rdSteps
  by_cases h0 : vs.length = 0
  · rw [if_pos h0, List.eq_nil_of_length_eq_zero h0]; rfl
  · rw [if_neg h0]
    obtain ⟨v, us, rfl⟩ : ∃ v us, vs = v :: us := by
      cases vs with
      | nil => exact absurd rfl h0
      | cons v us => exact ⟨v, us, rfl⟩
    have hv := hin v.n (by simp)
    have hd : deltaB (v :: us) = Um.uv (zig v.n) ++ blks ((us.length + 31) / 32) (difs (v :: us)) := by
      rw [← stepsB_blks]
      unfold deltaB
      rw [if_neg h0]
      simp [vns]
    have hvr := Um.rdv_whole (zig v.n) (blks ((us.length + 31) / 32) (difs (v :: us))) (zig_lt hv.1 hv.2)
    have hlen : (difs (v :: us)).length = us.length := by rw [difs_len]; simp
    simp only
    rw [hd, hvr]
    simp only
    rw [if_pos (Um.uv_pos _), unz_zig, List.length_cons, Nat.add_sub_cancel]
    have hm := rdSt_blks (Um.uv (zig v.n) ++ blks ((us.length + 31) / 32) (difs (v :: us))) ((us.length + 31) / 32) (difs (v :: us)) (us.length + 1) (Um.uv (zig v.n)).length v.n List.drop_left (by omega) (by omega) (by omega) difs_ok
    rw [hlen] at hm
    rw [hm]
    have ha := accD_difs (us.map (·.n)) v.n (fun y hy => hin y (by simpa using hy))
    have hdf : difs (v :: us) = (List.range (us.map (·.n)).length).map fun j => wrap64 ((v.n :: us.map (·.n)).getD (j + 1) 0 - (v.n :: us.map (·.n)).getD j 0) := by
      unfold difs dif vns
      simp
    rw [hdf, ha]
    rfl
end Go.Proofs.YtjchkhdmjbojjaaDoor
