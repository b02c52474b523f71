/-
  enc.Delta: the first number, then the differences by blocks.
-/
import Derived.Test.YtjcmnngaecoddaaGreatDoorPAppBlock
import Derived.Test.YtjcmnngaecoddaaGreatDoorPBPTexts
import Derived.Test.YtjcmnngaecoddaaGreatDoorPBWordsMath
namespace Go.Proofs.YtjcmnngaecoddaaGreatDoor
open Go.RowKit
/-- A block of the differences. -/
def stepB (ds : List Int) (j : Nat) : List UInt8 := blkB ((ds.drop (32 * j)).take 32)
/-- The first blocks. -/
def stepsB (ds : List Int) (j : Nat) : List UInt8 := (List.range j).flatMap (stepB ds)
theorem stepsB_succ (ds : List Int) (j : Nat) : stepsB ds (j + 1) = stepsB ds j ++ stepB ds j := by simp [stepsB, List.range_succ]
/-- What Delta writes. -/
def deltaB (vs : List Vl) : List UInt8 := if vs.length = 0 then [] else Um.uv (zig ((vns vs).getD 0 0)) ++ stepsB (difs vs) ((vs.length - 1 + 31) / 32)
theorem hasDelta_any (kd : Int) (w : World) : Calls Tryz.prog 70 #[.int .i64 kd] w fun e w' => e = .returned (.bool (decide (kd = 2 ∨ kd = 3))) ∧ w' = w := by
  by_cases h2 : kd = 2
  · subst h2
    go_enter Tryz.func70, Tryz.ntmps70
    go_wp2
    go_ret
    exact ⟨rfl, rfl⟩
  · by_cases h3 : kd = 3
    · subst h3
      go_enter Tryz.func70, Tryz.ntmps70
      go_wp2
      go_ret
      exact ⟨rfl, rfl⟩
    · have e : decide (kd = 2 ∨ kd = 3) = false := by simp [h2, h3]
      have e2 : (kd == 2 || kd == 3) = false := by simp [h2, h3]
      rw [e]
      go_enter Tryz.func70, Tryz.ntmps70
      go_wp2
      go_ret
      refine ⟨?_, rfl⟩
      rw [← e2]
      rfl
theorem difs_ok {vs : List Vl} : ∀ d ∈ difs vs, -9223372036854775808 ≤ d ∧ d ≤ 9223372036854775807 := fun d hd => by
  obtain ⟨j, _, rfl⟩ := List.mem_map.1 hd
  unfold dif wrap64
  omega
theorem blkB_len {ds : List Int} (h0 : 0 < ds.length) (h : ds.length ≤ 32) (hx : ∀ d ∈ ds, -9223372036854775808 ≤ d ∧ d ≤ 9223372036854775807) : (blkB ds).length ≤ 300 := by
  have hlo := hx _ (lows_in h0)
  have h1 := Um.uv_ten (zig_lt hlo.1 hlo.2)
  have h2 : wdt ds ≤ 64 := bitLen_64 _
  have h3 := Nat.mul_le_mul h h2
  unfold blkB
  rw [List.length_append, List.length_cons, Um.lit_len]
  omega
def slLen : Value → Nat
  | .slice _ k _ => k
  | _ => 0
theorem OwnM.conv {w : World} {B : Nat} {v : Value} {l : List UInt8} (h : OwnM w B v l) : (convert 80 9 v).run Tryz.prog w = .ok (.string ⟨l.toArray⟩) w := by
  have h0 := h
  obtain ⟨g, cap, cur, z, rfl, _⟩ := h
  exact run_convert_bytes_back w 80 9 5 ⟨g, 0, none⟩ cap l Tryz.underlying80 Tryz.underlying5 Tryz.underlying9 (fun j hj => by rw [addr_add, Nat.zero_add]; exact h0.cells j hj)
/-- Where Delta's loop stands: behind j blocks. -/
structure DAt (g n : Nat) (m1 : List UInt8) (ds : List Int) (B : Nat) (w4 : World) (v d : Value) (wr : World) (j k : Nat) (q : Option Addr) (c : Nat) : Prop where
  hd : d = .slice q k c
  more : 0 < k → q = some ⟨g, 32 * j, none⟩ ∧ c = k ∧ 32 * j + k = n
  done : k = 0 → j = (n + 31) / 32
  room : (m1 ++ stepsB ds j).length ≤ 10 + 300 * j
  own : OwnM wr B v (m1 ++ stepsB ds j)
  stand : Stand w4 wr
set_option maxRecDepth 100000 in
set_option maxHeartbeats 1600000 in
/-- Delta, of values that are all of the kind. -/
theorem delta_right (a : Option Addr) (vs : List Vl) (c : Nat) (kd : Int) (w : World) (kt : TypeId) (kp : Value) (hgk : w.cell? ⟨3, 0, none⟩ = some (.iface kt kp)) (hn : vs.length ≤ 20000) (hk : kd = 2 ∨ kd = 3) (hl : LiesV w a vs) (hok : ∀ j (h : j < vs.length), vs[j].Ok kd)
    (hx : ∀ j (h : j < vs.length), -9223372036854775808 ≤ vs[j].n ∧ vs[j].n ≤ 9223372036854775807) :
    Calls Tryz.prog 71 #[.int .i64 kd, .slice a vs.length c] w fun e w' => e = .returned (.tuple #[.string ⟨(deltaB vs).toArray⟩, .nilIface]) ∧ Below w.heap.size w w' := by
  have HL : Hid (LiesV w a vs) := hl
  have HK : Hid (∀ j (h : j < vs.length), vs[j].Ok kd) := hok
  have HX : Hid (∀ j (h : j < vs.length), -9223372036854775808 ≤ vs[j].n ∧ vs[j].n ≤ 9223372036854775807) := hx
  have HGK : Hid _ := hgk
  have hd : decide (kd = 2 ∨ kd = 3) = true := by simp [hk]
  have hk1 : 1 ≤ kd ∧ kd ≤ 5 := by omega
  clear hl hok hx hgk
  go_enter Tryz.func71, Tryz.ntmps71
  go_wp2_with fail
  refine (checkE_any a vs c kd w kt kp hn hk1.1 hk1.2 HGK.out HL.out).mono ?_
  rintro e w1 ⟨⟨rfl, _⟩ | ⟨i, p, hi, rfl, _, hN, _, _⟩, hb1⟩
  · have HL1 : Hid _ := HL.out.keep hb1
    go_wp2_with fail
    refine (hasDelta_any kd _).mono ?_
    rw [hd]
    rintro e w2 ⟨rfl, hw⟩
    obtain rfl := hw.symm
    by_cases h0 : vs.length = 0
    · have HD : Hid (deltaB vs = []) := by show _ = _; unfold deltaB; rw [if_pos h0]
      rw [h0]
      go_wp2
      go_ret2
      exact ⟨by rw [HD.out]; rfl, hb1⟩
    · obtain ⟨b, o, rfl, hc0, hc1, hc2⟩ := HL1.out 0 (by omega)
      have hx0 := HX.out 0 (by omega)
      have HD : Hid (deltaB vs = Um.uv (zig vs[0].n) ++ stepsB (difs vs) ((vs.length - 1 + 31) / 32)) := by
        show _ = _
        unfold deltaB
        rw [if_neg h0]
        simp [vns, List.getD, show 0 < vs.length by omega]
      have hpos : 0 < vs.length := by omega
      generalize vs[0] = v0 at *
      obtain ⟨k0, n0, s0⟩ := v0
      simp only [Nat.zero_mul, Nat.add_zero] at hc0 hc1 hc2 hx0 HD
      go_wp2_with fail
      refine (varint_any n0 _ hx0.1 hx0.2).mono ?_
      rintro e w2 ⟨rfl, hb2⟩
      have hb12 := hb1.trans (hb2.mono hb1.size)
      have hzl := zig_lt hx0.1 hx0.2
      have huv := Um.uv_ten hzl
      obtain ⟨m1, hm1⟩ : ∃ m1 : List UInt8, m1 = Um.uv (zig n0) := ⟨_, rfl⟩
      rw [← hm1] at huv HD
      have htb : (⟨m1.toArray⟩ : ByteArray).data.toList = m1 := by simp
      have hts : (⟨m1.toArray⟩ : ByteArray).size = m1.length := by simp [ByteArray.size]
      rw [← hm1]
      generalize (⟨m1.toArray⟩ : ByteArray) = t at *
      obtain ⟨v3, w3, hr3, hown3, hb3'⟩ := ownM_conv w2 w.heap.size t m1 htb (by omega) hb12.size
      have hb3 := hb12.trans (hb3'.mono hb12.size)
      have HL3 : Hid _ := HL.out.keep hb3
      go_wp2_with fail
      refine (differences_any _ vs c _ HL3.out (by omega) hn).mono ?_
      rintro e w4 ⟨⟨g, rfl, hl4, hT4⟩, hb4⟩
      have hown4 := hown3.keep hb4
      have hb4w := hb3.trans (hb4.mono hb3.size)
      have hdl := difs_len vs
      have hdn : vs.length - 1 ≤ 20000 := by omega
      obtain ⟨n, HN⟩ : ∃ n, Hid (n = vs.length - 1) := ⟨_, rfl⟩
      rw [← HN.out] at HD hdl hdn ⊢
      have HDO : Hid _ := difs_ok (vs := vs)
      generalize difs vs = ds at *
      have HL4 : Hid _ := hl4
      have HT4 : Hid _ := hT4
      have HO4 : Hid (OwnM w4 w.heap.size v3 m1) := hown4
      clear hown3 hb3' hts hm1 hl4 hT4 hown4 hr3 hc0 hc1 hc2
      go_wp2_with fail
      have HS : Hid (DAt g n m1 ds w.heap.size w4 v3 (.slice (some ⟨g, 0, none⟩) n n) w4 0 n (some ⟨g, 0, none⟩) n) := ⟨rfl, fun _ => ⟨rfl, rfl, by omega⟩, fun h => by omega, by simpa [stepsB] using huv, by rw [show m1 ++ stepsB ds 0 = m1 by simp [stepsB]]; exact HO4.out, Stand.refl _⟩
      go_loopw [7, 8] (fun v d wr => ∃ j k q c, Hid (DAt g n m1 ds w.heap.size w4 v d wr j k q c) ∧ Below w.heap.size w wr) (fun _ d _ => slLen d)
      case atStart => exact ⟨0, n, _, n, HS, hb4w⟩
      case round =>
        clear HS
        obtain ⟨j, k, q, c', HR, hb⟩ := hrel
        obtain rfl := HR.out.hd
        by_cases hk0 : k = 0
        · subst hk0
          have ho := HR.out.own
          rw [HR.out.done rfl, ← HD.out] at ho
          have hcv := ho.conv
          clear ho
          go_wp2
          go_ret2
          exact ⟨rfl, hb⟩
        · obtain ⟨rfl, rfl, hjk⟩ := HR.out.more (by omega)
          obtain ⟨es, HE⟩ : ∃ es : List Int, Hid (es = (ds.drop (32 * j)).take 32) := ⟨_, rfl⟩
          have hel : es.length = min 32 c' := by rw [HE.out, List.length_take, List.length_drop, hdl]; omega
          have HEX : Hid (∀ d ∈ es, -9223372036854775808 ≤ d ∧ d ≤ 9223372036854775807) := fun d hd => HDO.out d (List.mem_of_mem_drop (List.mem_of_mem_take (by rw [← HE.out]; exact hd)))
          have HLr : Hid (Lies wr (some ⟨g, 32 * j, none⟩) (i64s es)) := fun i hi => by
            have hi' : i < es.length := by simpa [i64s] using hi
            have hlr := Stand.lies HR.out.stand (by decide) HT4.out HL4.out
            obtain ⟨b', o', e', hc⟩ := hlr (32 * j + i) (by rw [i64s_len, hdl]; omega)
            obtain ⟨rfl, rfl⟩ : g = b' ∧ 0 = o' := by simpa using e'
            refine ⟨g, 32 * j, rfl, ?_⟩
            rw [Nat.zero_add] at hc
            rw [hc]
            simp [i64s, HE.out]
          have hroom := HR.out.room
          have hjb : j ≤ 20000 := by omega
          have HSB : Hid (m1 ++ stepsB ds (j + 1) = m1 ++ stepsB ds j ++ blkB es) := by
            show _ = _
            rw [stepsB_succ, stepB, ← HE.out, List.append_assoc]
          have hbl := blkB_len (ds := es) (by omega) (by omega) HEX.out
          have HOr : Hid (OwnM wr w.heap.size u7 (m1 ++ stepsB ds j)) := HR.out.own
          have HSt : Hid (Stand w4 wr) := HR.out.stand
          obtain ⟨p, HP⟩ : ∃ p, Hid (p = es.length) := ⟨_, rfl⟩
          have hpi : min 32 (c' : Int) = (p : Int) := by rw [HP.out, hel]; omega
          have hpc : p ≤ c' ∧ p ≤ 32 ∧ 0 < p := by rw [HP.out, hel]; omega
          have HPL : Hid (p < 32 → p = c') := fun h => by rw [HP.out, hel] at *; omega
          have HAB := fun W h1 h2 h3 h4 => appendBlock_any w.heap.size g (32 * j) c' u7 (m1 ++ stepsB ds j) es W h1 h2 h3 (by omega) (by omega) HEX.out h4
          rw [← HP.out] at HAB
          clear hel
          go_wp2_with fail
          refine (HAB wr HOr.out hb.size HLr.out (by omega)).mono ?_
          rintro e w5 ⟨v5, rfl, hown5, hb5, hst5⟩
          rw [← HSB.out] at hown5
          have HO5 : Hid (OwnM w5 w.heap.size v5 (m1 ++ stepsB ds (j + 1))) := hown5
          have HS5 : Hid (Stand w4 w5) := Stand.trans HSt.out hst5
          have hb5w := hb.trans hb5
          clear hown5 hst5 HAB
          go_wp2_with fail
          have hpl := HPL.out
          refine ⟨⟨j + 1, c' - p, _, c' - p, ⟨rfl, fun h => ?_, fun h => by omega, ?_, HO5.out, HS5.out⟩, hb5w⟩, by simp only [slLen]; omega⟩
          · have h32 : p = 32 := by omega
            refine ⟨?_, rfl, by omega⟩
            rw [if_neg (by omega), h32, Nat.mul_add]
          · rw [HSB.out, List.length_append]; omega
  · exact absurd (HK.out i hi) hN
end Go.Proofs.YtjcmnngaecoddaaGreatDoor
