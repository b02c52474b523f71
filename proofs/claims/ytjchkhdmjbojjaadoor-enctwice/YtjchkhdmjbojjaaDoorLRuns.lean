/-
  bitrun.Runs: the bytes of right numbers as runs, or the first number that is not right.
-/
import Derived.Test.YtjchkhdmjbojjaaDoorLBShut0
namespace Go.Proofs.YtjchkhdmjbojjaaDoor
open Go.RowKit
set_option linter.unusedVariables false
theorem wrap_twice (c : Nat) (h : c ≤ 100000) : IntKind.u64.wrap (IntKind.i64.wrap (2 * (c : Int))) = ((2 * c : Nat) : Int) := by
  have e : IntKind.i64.wrap (2 * (c : Int)) = 2 * (c : Int) := by rw [IntKind.wrap_i64]; omega
  rw [e, IntKind.wrap_u64]
  omega
/-- The closure, whatever is open. -/
theorem shut_any (w0 : World) (Bl Bw Bb Bo : Nat) (a : Option Addr) (xs : List Int) (c wd : Nat) (w : World) (bs : List UInt8) (op en : Nat) (hI : RI w0 Bl Bw Bb Bo a xs.length c wd w bs op) (hne : Bl ≠ Bb ∧ Bw ≠ Bb ∧ Bo ≠ Bb) (hL : Lies w0 a (i64s xs)) (hc : xs.length ≤ c)
    (hlen : xs.length ≤ 20000) (hwd : wd ≤ 32) (hr : ∀ j (h : j < xs.length), Room wd xs[j]) (hbs : bs.length ≤ 10000000) (hoe : op ≤ en) (hen : en ≤ xs.length) :
    Calls Tryd.prog 64 #[.int .i64 en, .pointer (some ⟨Bo, 0, none⟩), .pointer (some ⟨Bb, 0, none⟩), .pointer (some ⟨Bl, 0, none⟩), .pointer (some ⟨Bw, 0, none⟩)] w fun e w' => e = .returned (.tuple #[]) ∧ RI w0 Bl Bw Bb Bo a xs.length c wd w' (bs ++ Um.flush wd ((xs.take en).drop op)) op := by
  have hpl : ((xs.take en).drop op).length = en - op := by simp; omega
  by_cases h : op = en
  · subst h
    have e : Um.flush wd ((xs.take op).drop op) = [] := by unfold Um.flush; rw [if_pos (by rw [hpl]; omega)]
    rw [e, List.append_nil]
    exact shut_none w0 Bl Bw Bb Bo a xs.length c wd w bs op hI (by omega)
  · have e : Um.flush wd ((xs.take en).drop op) = Um.uv (2 * ((en - op + 7) / 8) + 1) ++ Um.lit (Um.num wd (nats ((xs.take en).drop op))) ((en - op + 7) / 8 * wd) := by unfold Um.flush; rw [if_neg (by rw [hpl]; omega), hpl]
    rw [e, ← List.append_assoc]
    exact shut_some w0 Bl Bw Bb Bo a xs c wd w bs op en hI hne hL hc hlen hwd hr hbs (by omega) hen
theorem flush_len (wd : Nat) (p : List Int) (h : p.length ≤ 400) (hwd : wd ≤ 32) : (Um.flush wd p).length ≤ 1700 := by
  unfold Um.flush
  split
  · simp
  · have h1 := Um.uv_ten (n := 2 * ((p.length + 7) / 8) + 1) (by omega)
    have h2 : (p.length + 7) / 8 * wd ≤ 50 * 32 := Nat.mul_le_mul (by omega) hwd
    rw [List.length_append, Um.lit_len]
    omega
set_option maxRecDepth 100000 in
theorem own_conv_any {w : World} {base n : Nat} {v : Value} {l : List UInt8} (hl : l.length = n) (h : w.ownsRow base 5 1 v n (cellsOf l)) : (convert 76 9 v).run Tryd.prog w = .ok (.string ⟨l.toArray⟩) w := by
  rcases h.2 with ⟨rfl, hn⟩ | ⟨g, cap, cur, rfl, _, _⟩
  · obtain rfl : l = [] := List.eq_nil_of_length_eq_zero (by omega)
    rfl
  · exact own_conv_at hl h
/-- What Runs' loop keeps. -/
structure RL (xs : List Int) (wd : Nat) (w : World) (Bl Bw Bb Bo : Nat) (a : Option Addr) (c : Nat) (x : Value) (wr : World) (bs : List UInt8) (op i : Nat) : Prop where
  hx : x = .int .i64 i
  le : i ≤ xs.length
  ri : RI w Bl Bw Bb Bo a xs.length c wd wr bs op
  oi : op ≤ i
  tot : bs ++ Um.wrs wd ((xs.take i).drop op) (xs.drop i) = Um.wrs wd [] xs
  bl : bs.length ≤ 2000 * op
set_option maxRecDepth 100000 in
set_option maxHeartbeats 1600000 in
theorem runsF_any (a : Option Addr) (xs : List Int) (c k : Nat) (w : World) (st : TypeId) (sp : Value) (hn : xs.length ≤ 400) (hcap : xs.length ≤ c) (hk : k ≤ 32) (hg : w.cell? ⟨1, 0, none⟩ = some (.iface st sp))
    (hx : ∀ j (h : j < xs.length), -9223372036854775808 ≤ xs[j] ∧ xs[j] ≤ 9223372036854775807) (hl : Lies w a (i64s xs)) :
    Calls Tryd.prog 26 #[.slice a xs.length c, .int .i64 k] w fun e w' =>
      ((e = .returned (.tuple #[.string ⟨(Um.wrs k [] xs).toArray⟩, .nilIface]) ∧ ∀ j (h : j < xs.length), Room k xs[j]) ∨
       (∃ i p, ∃ hi : i < xs.length, e = .returned (.tuple #[.string ⟨#[]⟩, .iface 84 (.pointer (some ⟨p, 0, none⟩))]) ∧ (∀ j (h : j < xs.length), j < i → Room k xs[j]) ∧ ¬ Room k xs[i] ∧ w'.cell? ⟨p, 0, none⟩ = some (.int .i64 i) ∧ w'.cell? ⟨p, 1, none⟩ = some (.iface st sp))) ∧ Below w.heap.size w w' := by
  have hb0 : Below w.heap.size w ((w.alloc (.cells #[.slice a xs.length c] 49)).alloc (.cells #[.int .i64 k] 3)) := ((Below.refl _ _).alloc (Nat.le_refl _) _).alloc (by simp) _
  have HG : Hid (((w.alloc (.cells #[.slice a xs.length c] 49)).alloc (.cells #[.int .i64 k] 3)).cell? ⟨1, 0, none⟩ = some (.iface st sp)) := (hb0.cell (World.block_lt_of_cell? w _ hg)).trans hg
  have HX : Hid (∀ j (h : j < xs.length), -9223372036854775808 ≤ xs[j] ∧ xs[j] ≤ 9223372036854775807) := hx
  have HL : Hid (Lies w a (i64s xs)) := hl
  clear hg hx hl
  go_enter Tryd.func26, Tryd.ntmps26
  go_wp2_with fail
  refine (check_any a xs c k _ st sp (by omega) hk HG.out HX.out (lies_ints (HL.out.keep hb0))).mono ?_
  rintro e w1 ⟨⟨rfl, hR⟩ | ⟨i, p, hi, rfl, h1, h2, h3, h4⟩, hb1⟩
  · have HR : Hid (∀ j (h : j < xs.length), Room k xs[j]) := hR
    have HS : Hid (RI w w.heap.size (w.heap.size + 1) w1.heap.size (w1.heap.size + 1) a xs.length c k ((w1.alloc (.cells #[.slice none 0 0] 76)).alloc (.cells #[.int .i64 ((0 : Nat) : Int)] 3)) [] 0) := RI.start w w1 a xs.length c k hb1
    have hsz : w.heap.size + 2 ≤ w1.heap.size := by have := hb1.size; simpa using this
    have hmf : ∀ (fn : Fn) (first cap : Array Value) (W : World), (Instr.makeFunc fn first cap).run Tryd.prog W = .ok (.func fn first cap) W := fun _ _ _ _ => rfl
    clear hR
    go_wp2_with fail
    go_loopw [10] (fun x wr => ∃ (bs : List UInt8) (op i : Nat), Hid (RL xs k w w.heap.size (w.heap.size + 1) w1.heap.size (w1.heap.size + 1) a c x wr bs op i)) (fun x _ => xs.length - (intOf x).toNat)
    case atStart => exact ⟨[], 0, 0, ⟨rfl, Nat.zero_le _, HS.out, Nat.le_refl _, by simp, Nat.le_refl _⟩⟩
    case round =>
      obtain ⟨bs, op, i, HRL⟩ := hrel
      obtain ⟨rfl, hle, hri, hoi, _, hbl⟩ := HRL.out
      have HI : Hid (RI w w.heap.size (w.heap.size + 1) w1.heap.size (w1.heap.size + 1) a xs.length c k wr bs op) := hri
      have cL := cell_of_one hri.hl
      clear hri
      by_cases hlt : i < xs.length
      · have hlp := Um.lead_pos (l := xs.drop i) (by rw [List.length_drop]; omega)
        have hll := Um.lead_le (xs.drop i)
        rw [List.length_drop] at hll
        go_wp2_with fail
        refine (sameFrom_any a c xs i wr (by omega) hlt (HL.out.keep HI.out.old)).mono ?_
        generalize hlde : Um.lead (xs.drop i) = ld at hlp hll
        have HLd : Hid (Um.lead (xs.drop i) = ld) := hlde
        clear hlde
        rintro e w2 ⟨rfl, hb2⟩
        have HI2 : Hid (RI w w.heap.size (w.heap.size + 1) w1.heap.size (w1.heap.size + 1) a xs.length c k w2 bs op) := HI.out.below hb2
        have cL2 := cell_of_one HI2.out.hl
        by_cases h8 : ld < 8
        · have hd8 : decide ((ld : Int) < 8) = true := by simp; omega
          have HT : Hid (bs ++ Um.wrs k ((xs.take (min (i + 8) xs.length)).drop op) (xs.drop (min (i + 8) xs.length)) = Um.wrs k [] xs) := by
            show _ = _
            rw [← HRL.out.tot, Um.wrs_short k _ (xs.drop i) (by rw [List.length_drop]; omega) (by rw [HLd.out]; exact h8), pend_step xs op i hoi hle, List.drop_drop]
            congr 2
            by_cases hm : i + 8 ≤ xs.length
            · rw [Nat.min_eq_left hm]
            · rw [Nat.min_eq_right (by omega), List.drop_of_length_le (by omega), List.drop_of_length_le (by omega)]
          by_cases hm : i + 8 ≤ xs.length
          · rw [Nat.min_eq_left hm] at HT
            go_wp2_with fail
            all_goals go_roundw
            all_goals first
              | (exact ⟨bs, op, i + 8, ⟨by go_num, hm, HI2.out, by omega, HT.out, hbl⟩⟩)
              | (simp [intOf]; omega)
          · rw [Nat.min_eq_right (by omega)] at HT
            have hm2 : xs.length < i + 8 := by omega
            go_wp2_with fail
            all_goals go_roundw
            all_goals first
              | (exact ⟨bs, op, xs.length, ⟨by go_num, Nat.le_refl _, HI2.out, by omega, HT.out, hbl⟩⟩)
              | (simp [intOf]; omega)
        · have hd8 : decide ((ld : Int) < 8) = false := by simp; omega
          have HLo : Hid (bs ++ Um.flush k ((xs.take i).drop op) ++ Um.uv (2 * ld) ++ Um.lit xs[i].toNat ((k + 7) / 8) ++ Um.wrs k [] (xs.drop (i + ld)) = Um.wrs k [] xs) := by
            show _ = _
            have hh : (xs.drop i).headD 0 = xs[i] := by rw [List.drop_eq_getElem_cons hlt]; rfl
            rw [← HRL.out.tot, Um.wrs_long k _ (xs.drop i) (by rw [HLd.out]; exact h8), HLd.out, hh, List.drop_drop]
            simp only [List.append_assoc]
          have hfl := flush_len k ((xs.take i).drop op) (by simp; omega) hk
          have huv := Um.uv_ten (n := 2 * ld) (by omega)
          have HW2 : Hid (IntKind.u64.wrap (IntKind.i64.wrap (2 * (ld : Int))) = ((2 * ld : Nat) : Int)) := wrap_twice ld (by omega)
          obtain ⟨i0, hi, hz0, hz1, hz2⟩ := info_parts Tryd.info5
          go_wp2_with fail
          refine (shut_any w w.heap.size (w.heap.size + 1) w1.heap.size (w1.heap.size + 1) a xs c k w2 bs op i HI2.out ⟨by omega, by omega, by omega⟩ HL.out hcap (by omega) hk HR.out (by omega) hoi hle).mono ?_
          rintro e w3 ⟨rfl, hI3⟩
          have hb1l : (bs ++ Um.flush k ((xs.take i).drop op)).length ≤ 2000 * op + 1700 := by rw [List.length_append]; omega
          generalize hb1e : bs ++ Um.flush k ((xs.take i).drop op) = bs1 at hI3 hb1l HLo
          have HI3 : Hid (RI w w.heap.size (w.heap.size + 1) w1.heap.size (w1.heap.size + 1) a xs.length c k w3 bs1 op) := hI3
          obtain ⟨v, hvb, hvo⟩ := hI3.hb
          have HB : Hid (w3.heap[w1.heap.size]? = some (.cells #[v] 76 (0, 0))) := hvb
          have HO : Hid (w3.ownsRow w.heap.size 5 1 v bs1.length (cellsOf bs1)) := hvo
          have cB := cell_of_one hvb
          have hne : w.heap.size ≠ w1.heap.size ∧ w.heap.size + 1 ≠ w1.heap.size ∧ w1.heap.size + 1 ≠ w1.heap.size := ⟨by omega, by omega, by omega⟩
          clear hb1e hI3 hvb hvo
          go_upto_region 13 with fail
          go_cut [] (fun wx => Hid (RI w w.heap.size (w.heap.size + 1) w1.heap.size (w1.heap.size + 1) a xs.length c k wx (bs1 ++ Um.uv (2 * ld)) op))
          case first =>
            go_region_law (first | (refine step_own_string rfl _ _ 76 9 rfl w.heap.size 5 i0 Tryd.underlying76 Tryd.underlying9 hi hz0 hz1 hz2 v bs1.length (cellsOf bs1) rfl hown5 _ rfl (by unfold maxLen; simp [ByteArray.size]; omega) (by simp [ByteArray.size]; omega) (by have := hI5.old.size; omega) ?_; intro v' w6 hown6 hgrow6; obtain ⟨a3, c3, rfl, _⟩ := lies_own hown6; have cB6 := cell_of_one (kept_block hown5 hB5 (by decide) hgrow6); have fB6 := free_of_one (kept_block hown5 hB5 (by decide) hgrow6); have HP6 : Hid _ := hI5.push hne hB5 hown5 hgrow6 (own_str hown6)) | (rw [if_pos (by kernel_rfl)]; go_simp; rw [HW2.out]; refine (uvarint_any (2 * ld) _ (by omega)).mono ?_; rintro e w5 ⟨rfl, hb5⟩; have hI5 := HI3.out.below ((Below.refl _ _).drew.trans hb5); have hB5 := below_block ((Below.refl _ _).drew.trans hb5) HB.out; have cB5 := cell_of_one hB5; have hown5 := own_kept HO.out ((Below.refl _ _).drew.trans hb5)))
            all_goals (go_wp2_with fail; go_meet; simp only [List.length_append] at HP6; exact HP6)
          case rest =>
            clear HI3 HB HO cB
            have HI4 : Hid (RI w w.heap.size (w.heap.size + 1) w1.heap.size (w1.heap.size + 1) a xs.length c k wc (bs1 ++ Um.uv (2 * ld)) op) := hcut
            clear hcut
            have hb2l : (bs1 ++ Um.uv (2 * ld)).length ≤ 2000 * op + 1710 := by rw [List.length_append]; omega
            generalize bs1 ++ Um.uv (2 * ld) = bs2 at HI4 hb2l HLo
            obtain ⟨b, o, rfl, _⟩ := lies_ints HL.out i hlt
            obtain ⟨v, hvb, hvo⟩ := HI4.out.hb
            have HB : Hid (wc.heap[w1.heap.size]? = some (.cells #[v] 76 (0, 0))) := hvb
            have HO : Hid (wc.ownsRow w.heap.size 5 1 v bs2.length (cellsOf bs2)) := hvo
            have cB := cell_of_one hvb
            have cL4 := cell_of_one HI4.out.hl
            have cW4 := cell_of_one HI4.out.hw
            obtain ⟨z, HZ⟩ : ∃ z, Hid (z = (k + 7) / 8) := ⟨_, rfl⟩
            have hz4 : z ≤ 4 := by rw [HZ.out]; omega
            rw [← HZ.out] at HLo
            obtain ⟨i1, HI1⟩ : ∃ i1, Hid (i1 = i + 1) := ⟨_, rfl⟩
            have hwi : IntKind.i64.wrap ((i : Int) + 1) = (i1 : Int) := by rw [IntKind.wrap_i64, HI1.out]; omega
            have hs1 : i ≤ i1 := by rw [HI1.out]; omega
            have hs2 : i1 ≤ c := by rw [HI1.out]; omega
            have hs3 : ¬ c = i := by omega
            have hs4 : (i : Int) ≤ (i1 : Int) := by omega
            have hs5 : (i1 : Int) ≤ (c : Int) := by omega
            have hsl : ((xs.take (i + 1)).drop i).length = i1 - i := by rw [HI1.out]; simp; omega
            have hone : (xs.take (i + 1)).drop i = [xs[i]] := by
              rw [List.take_succ_eq_append_getElem hlt, List.drop_append_of_le_length (by simp; omega), List.drop_of_length_le (by rw [List.length_take]; omega)]; simp
            have hp := pack_ints ((xs.take (i + 1)).drop i) k z (some ⟨b, o + i, none⟩) (c - i) wc.drew (by rw [hsl, HI1.out]; omega) hk (fun j h => by
              rw [hsl] at h
              rw [List.getElem_drop, List.getElem_take]
              exact HR.out _ (by have := HI1.out; omega)) (by rw [hsl, HI1.out, HZ.out, show i + 1 - i = 1 by omega, Nat.mul_one]; exact Nat.le_refl _) (by omega) (fun j h => by
              rw [hsl] at h
              have hj0 : j = 0 := by have := HI1.out; omega
              subst hj0
              obtain ⟨b2, o2, e2, hc2⟩ := lies_ints HL.out i hlt
              obtain ⟨rfl, rfl⟩ : b = b2 ∧ o = o2 := by injection e2 with e2; injection e2 with x y; exact ⟨x, y⟩
              refine ⟨b, o + i, rfl, ?_⟩
              have hc3 := (HI4.out.old.cell (World.block_lt_of_cell? w _ hc2)).trans hc2
              rw [List.getElem_drop, List.getElem_take]
              simpa using hc3)
            rw [hsl, hone] at hp
            have hnum : Um.num k (nats [xs[i]]) = xs[i].toNat := by simp [nats, Um.num]
            rw [hnum] at hp
            clear hvb hvo hsl hone hnum
            go_upto_region 14 with fail
            go_cut [] (fun wx => Hid (RI w w.heap.size (w.heap.size + 1) w1.heap.size (w1.heap.size + 1) (some ⟨b, o, none⟩) xs.length c k wx (bs2 ++ Um.lit xs[i].toNat z) op))
            case first =>
              go_region_law (first | (refine step_own_slice rfl _ _ 76 rfl w.heap.size 5 i0 (.int .u8 0) 1 1 Tryd.underlying76 hi hz0 hz1 hz2 rfl (by decide) v bs2.length (cellsOf bs2) rfl hown5 ⟨wc.drew.heap.size, 0, none⟩ z z (cellsOf (Um.lit xs[i].toNat z)) rfl (by simp [cellsOf, Um.lit_len]) (hpk5.cells rfl) (by intro u hu; obtain ⟨x, _, rfl⟩ := List.mem_map.1 hu; rfl) (by unfold maxLen; omega) (by omega) (by have := hI5.old.size; omega) ?_; intro v' w6 hown6 hgrow6; obtain ⟨a3, c3, rfl, _⟩ := lies_own hown6; have cB6 := cell_of_one (kept_block hown5 hB5 (by decide) hgrow6); have fB6 := free_of_one (kept_block hown5 hB5 (by decide) hgrow6); have HP6 : Hid _ := hI5.push hne hB5 hown5 hgrow6 (own_lit hown6)) | (rw [if_pos (by kernel_rfl)]; go_simp; refine (eights_any k _ (by omega)).mono ?_; rw [← HZ.out]; rintro e wy ⟨rfl, hwy⟩; subst hwy) | (rw [if_pos (by kernel_rfl)]; go_simp; refine hp.mono ?_; rintro e w5 ⟨⟨rfl, hpk5⟩, hb5⟩; have hI5 := HI4.out.below ((Below.refl _ _).drew.trans hb5); have hB5 := below_block ((Below.refl _ _).drew.trans hb5) HB.out; have cB5 := cell_of_one hB5; have hown5 := own_kept HO.out ((Below.refl _ _).drew.trans hb5)))
              all_goals (clear hp; go_wp2_with fail; go_meet; simp only [List.length_append] at HP6; exact HP6)
            case rest =>
              clear hp cB cL4 cW4
              have hI6 : RI w w.heap.size (w.heap.size + 1) w1.heap.size (w1.heap.size + 1) (some ⟨b, o, none⟩) xs.length c k wc (bs2 ++ Um.lit xs[i].toNat z) op := hcut
              have HI6 : Hid (∀ op', RI w w.heap.size (w.heap.size + 1) w1.heap.size (w1.heap.size + 1) (some ⟨b, o, none⟩) xs.length c k (wc.setCell ⟨w1.heap.size + 1, 0, none⟩ (.int .i64 ((op' : Nat) : Int))) (bs2 ++ Um.lit xs[i].toNat z) op') := fun op' => hI6.setOpen ⟨by omega, by omega, by omega⟩ op'
              have cO6 := cell_of_one hI6.ho
              have fO6 := free_of_one hI6.ho
              clear hcut hI6
              go_wp2_with fail
              go_roundw
              case rel => exact ⟨bs2 ++ Um.lit xs[i].toNat z, i + ld, i + ld, ⟨by go_num, by omega, HI6.out (i + ld), Nat.le_refl _, by rw [List.drop_of_length_le (show (xs.take (i + ld)).length ≤ i + ld by rw [List.length_take]; omega)]; exact HLo.out, by rw [List.length_append, Um.lit_len]; omega⟩⟩
              case measure => simp [intOf]; omega
      · obtain rfl : i = xs.length := by omega
        have HTot : Hid (bs ++ Um.flush k ((xs.take xs.length).drop op) = Um.wrs k [] xs) := by
          have h := HRL.out.tot
          rw [List.drop_of_length_le (Nat.le_refl _), Um.wrs_nil] at h
          exact h
        go_wp2_with fail
        refine (shut_any w w.heap.size (w.heap.size + 1) w1.heap.size (w1.heap.size + 1) a xs c k wr bs op xs.length HI.out ⟨by omega, by omega, by omega⟩ HL.out hcap (by omega) hk HR.out (by omega) hoi (Nat.le_refl _)).mono ?_
        rw [HTot.out]
        rintro e w3 ⟨rfl, hI3⟩
        obtain ⟨v, hvb, hvo⟩ := hI3.hb
        have cB := cell_of_one hvb
        have hcv := own_conv_any rfl hvo
        have HOld : Hid (Below w.heap.size w w3) := hI3.old
        clear hI3 hvb hvo
        go_wp2_with fail
        go_ret2
        exact ⟨Or.inl ⟨rfl, HR.out⟩, HOld.out⟩
  · go_wp2_with fail
    go_ret2
    exact ⟨Or.inr ⟨i, p, hi, rfl, h1, h2, h3, h4⟩, hb0.trans (hb1.mono (by simp; omega))⟩
end Go.Proofs.YtjchkhdmjbojjaaDoor
