/-
  The walk of the law EncWords.
-/
import Derived.Test.YtjpdghpkbpdmeabDoorCPlainAny
import Derived.Test.YtjpdghpkbpdmeabDoorCSameVs
import Derived.Test.YtjpdghpkbpdmeabDoorCFour
namespace Go.Proofs.YtjpdghpkbpdmeabDoor
open Go.RowKit
theorem ck {w w' : World} {g : Nat} {v : Value} (h : w.cell? ⟨g, 0, none⟩ = some v) (hb : Below w.heap.size w w') : w'.cell? ⟨g, 0, none⟩ = some v := (hb.cell (World.block_lt_of_cell? w _ h)).trans h
set_option maxRecDepth 100000 in
set_option maxHeartbeats 3200000 in
theorem encWords_walk (kd : Int) (a1 a2 : Option Addr) (c1 c2 : Nat) (xs ys : List Vl) (w : World) (m1 : xs.length ≤ maxLen) (m2 : ys.length ≤ maxLen) (h1 : LiesV w a1 xs) (h2 : LiesV w a2 ys) (hx : ∀ v ∈ xs, v.In) (hy : ∀ v ∈ ys, v.In) (kt st : TypeId) (kp sp : Value) (hgk : w.cell? ⟨0, 0, none⟩ = some (.iface kt kp)) (hgs : w.cell? ⟨2, 0, none⟩ = some (.iface st sp)) :
    Calls Tryd.prog 5 #[.int .i64 kd, .slice a1 xs.length c1, .slice a2 ys.length c2] w fun e w' => e = .returned (.bool true) ∧ Below w.heap.size w w' := by
  have HK : Hid _ := hgk
  have HS : Hid _ := hgs
  have H1 : Hid (LiesV w a1 xs) := h1
  have H2 : Hid (LiesV w a2 ys) := h2
  have HX : Hid (∀ v ∈ xs, v.In) := hx
  have HY : Hid (∀ v ∈ ys, v.In) := hy
  have M1 : Hid (xs.length ≤ maxLen) := m1
  have M2 : Hid (ys.length ≤ maxLen) := m2
  unfold maxLen at m1 m2
  clear hgk hgs h1 h2 hx hy
  go_enter Tryd.func5, Tryd.ntmps5
  go_wp2_with fail
  refine (four_any _ kt st kp sp HK.out HS.out).mono ?_
  rintro e w1 ⟨rfl, hb1⟩
  go_wp2_with fail
  refine (small_any a1 xs c1 w1 M1.out (H1.out.keep hb1)).mono ?_
  rintro e w2 ⟨⟨b, rfl, hsm⟩, hw⟩
  obtain rfl := hw.symm
  cases b with
  | false =>
    go_wp2_with fail
    go_ret
    exact ⟨rfl, hb1⟩
  | true =>
    have hs1 := hsm rfl
    clear hsm
    go_wp2_with fail
    refine (small_any a2 ys c2 w1 M2.out (H2.out.keep hb1)).mono ?_
    rintro e w2 ⟨⟨b, rfl, hsm⟩, hw⟩
    obtain rfl := hw.symm
    cases b with
    | false =>
      go_wp2_with fail
      go_ret
      exact ⟨rfl, hb1⟩
    | true =>
      have hs2 := hsm rfl
      clear hsm
      by_cases hl : xs.length = ys.length
      · have hd : ((xs.length : Int) != (ys.length : Int)) = false := by simp; omega
        have HL : Hid (xs.length = ys.length) := hl
        clear hl
        go_wp2_with fail
        refine (values_any a1 c1 xs w1 (by omega) (H1.out.keep hb1)).mono ?_
        rintro e w3 ⟨⟨a3, c3, rfl, hl3⟩, hb3⟩
        have hb13 := hb1.trans (hb3.mono hb1.size)
        go_wp2_with fail
        refine (plain_any a3 xs c3 kd w3 kt st kp sp (ck HK.out hb13) (ck HS.out hb13) (by omega) hl3 HX.out).mono ?_
        rintro e w4 ⟨hr4, hb4⟩
        have hb14 := hb13.trans (hb4.mono hb13.size)
        have HR4 : Hid (RetPl kd xs e) := hr4
        clear hr4 hl3
        rcases HR4.out with ⟨hR1, rfl⟩ | ⟨hN1, t1, p1, rfl⟩
        · have HR1 : Hid (Right kd xs) := hR1
          clear hR1
          go_wp2_with fail
          refine (values_any a2 c2 ys w4 (by omega) (H2.out.keep hb14)).mono ?_
          rintro e w5 ⟨⟨a5, c5, rfl, hl5⟩, hb5⟩
          have hb15 := hb14.trans (hb5.mono hb14.size)
          go_wp2_with fail
          refine (plain_any a5 ys c5 kd w5 kt st kp sp (ck HK.out hb15) (ck HS.out hb15) (by omega) hl5 HY.out).mono ?_
          rintro e w6 ⟨hr6, hb6⟩
          have hb16 := hb15.trans (hb6.mono hb15.size)
          have HR6 : Hid (RetPl kd ys e) := hr6
          clear hr6 hl5
          rcases HR6.out with ⟨hR2, rfl⟩ | ⟨hN2, t2, p2, rfl⟩
          · have HR2 : Hid (Right kd ys) := hR2
            clear hR2
            by_cases hp : plainB kd xs = plainB kd ys
            · have he : xs = ys := plainB_inj HL.out HR1.out HR2.out hp
              have HE : Hid (xs = ys) := he
              clear he hp
              go_wp2_with fail
              have hq : (plainB kd xs == plainB kd ys) = true := by rw [HE.out]; simp
              generalize (plainB kd xs == plainB kd ys) = q at hq ⊢
              subst hq
              refine (sameVs_any w6 a1 a2 c1 c2 xs ys M1.out (H1.out.keep hb16) (H2.out.keep hb16)).mono ?_
              rintro e w7 ⟨⟨b, rfl, hb7⟩, hbb7⟩
              obtain rfl : b = true := hb7.2 HE.out
              have hbt : ∀ W : World, Sem.run Tryd.prog (binOp .eql 4 (.bool true) (.bool true)) W = .ok (.bool true) W := fun _ => by kernel_rfl
              go_wp2_with fail
              go_ret
              exact ⟨rfl, hb16.trans (hbb7.mono hb16.size)⟩
            · have HE : Hid (xs ≠ ys) := fun e => hp (by rw [e])
              have HA : Hid (¬ plainB kd xs = plainB kd ys) := hp
              clear hp
              go_wp2_with fail
              have hq : (plainB kd xs == plainB kd ys) = false := by simpa using HA.out
              generalize (plainB kd xs == plainB kd ys) = q at hq ⊢
              subst hq
              refine (sameVs_any w6 a1 a2 c1 c2 xs ys M1.out (H1.out.keep hb16) (H2.out.keep hb16)).mono ?_
              rintro e w7 ⟨⟨b, rfl, hb7⟩, hbb7⟩
              have hbf : b = false := by
                cases b
                · rfl
                · exact absurd (hb7.1 rfl) HE.out
              subst hbf
              go_wp2_with fail
              go_ret
              exact ⟨rfl, hb16.trans (hbb7.mono hb16.size)⟩
          · go_wp2_with fail
            go_ret
            exact ⟨rfl, hb16⟩
        · go_wp2_with fail
          refine (values_any a2 c2 ys w4 (by omega) (H2.out.keep hb14)).mono ?_
          rintro e w5 ⟨⟨a5, c5, rfl, hl5⟩, hb5⟩
          have hb15 := hb14.trans (hb5.mono hb14.size)
          go_wp2_with fail
          refine (plain_any a5 ys c5 kd w5 kt st kp sp (ck HK.out hb15) (ck HS.out hb15) (by omega) hl5 HY.out).mono ?_
          rintro e w6 ⟨hr6, hb6⟩
          have hb16 := hb15.trans (hb6.mono hb15.size)
          have HR6 : Hid (RetPl kd ys e) := hr6
          clear hr6 hl5
          rcases HR6.out with ⟨hR2, rfl⟩ | ⟨hN2, t2, p2, rfl⟩
          all_goals
            go_wp2_with fail
            go_ret
            exact ⟨rfl, hb16⟩
      · have hd : ((xs.length : Int) != (ys.length : Int)) = true := by simp; omega
        go_wp2_with fail
        go_ret
        exact ⟨rfl, hb1⟩
end Go.Proofs.YtjpdghpkbpdmeabDoor
