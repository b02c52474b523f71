/-
  What assemble's branches agree on: the closures, over the readers.
-/
import Derived.Test.YtbicfjimlpdnkaaGreatDoorHBColO
import Derived.Deep.DeepCutAuto
namespace Go.Proofs.YtbicfjimlpdnkaaGreatDoor
open Go.RowKit
def ptrs (G : List Nat) : List Value := G.map fun g => .pointer (some ⟨g, 0, none⟩)
theorem ptrs_len (G : List Nat) : (ptrs G).length = G.length := by unfold ptrs; simp
theorem ptrs_at (G : List Nat) (j : Nat) (h : j < (ptrs G).length) (h' : j < G.length) : (ptrs G)[j] = .pointer (some ⟨G[j], 0, none⟩) := List.getElem_map (fun g => Value.pointer (some ⟨g, 0, none⟩)) (h := h)
set_option maxRecDepth 100000 in
set_option maxHeartbeats 3200000 in
theorem ixN (z : Nat) (G : List Nat) (A : Nat → Bool) (hG : G.length ≤ 1000) (a : Option Addr) (c : Nat) (W : World) (hl : Lies W a (ptrs G)) (his : ∀ (j : Nat) (h : j < G.length) (X : World), Below W.heap.size W X → Calls Tryz.prog (107) #[.pointer (some ⟨G[j], 0, none⟩), .pointer (some ⟨z, 0, none⟩)] X fun e w' => e = .returned (.bool (A j)) ∧ Below X.heap.size X w') :
    Calls Tryz.prog (108) #[.slice a G.length c, .func (.func 107) #[] #[.pointer (some ⟨z, 0, none⟩)]] W fun e w' => ∃ i : Int, e = .returned (.int .i64 i) ∧ (0 ≤ i ↔ ∃ j, j < G.length ∧ A j = true) ∧ Below W.heap.size W w' := by
  have HL : Hid (Lies W a (ptrs G)) := hl
  have HI : Hid _ := his
  clear hl his
  go_enter Tryz.func108, Tryz.ntmps108
  go_wp2_with fail
  go_loopw [8] (fun x wr => ∃ i : Nat, i ≤ G.length ∧ x = .int .i64 i ∧ Hid (∀ j, j < i → A j = false) ∧ Hid (Below W.heap.size W wr)) (fun x _ => G.length - (intOf x).toNat)
  case atStart => exact ⟨0, Nat.zero_le _, rfl, fun j h => absurd h (Nat.not_lt_zero _), Below.refl _ _⟩
  case round =>
    obtain ⟨i, hik, rfl, HA, HB⟩ := hrel
    by_cases hlt : i < G.length
    · obtain ⟨bb, oo, ea, hc⟩ := (HL.out.keep HB.out) i (by rw [ptrs_len]; exact hlt)
      rw [ptrs_at G i _ hlt] at hc
      subst ea
      have HC : Hid _ := HI.out i hlt wr HB.out
      obtain ⟨g, HGn⟩ := hid_name G[i]
      rw [HGn.out] at HC hc
      obtain ⟨v, HV⟩ := hid_name (A i)
      rw [HV.out] at HC
      have q0 : (0 : Int) ≤ (i : Int) := by omega
      have q1 : (i : Int) < (G.length : Int) := by omega
      go_wp2_with fail
      refine Calls.mono HC.out ?_
      rintro e w1 ⟨rfl, hb1⟩
      have HB1 : Hid (Below W.heap.size W w1) := HB.out.trans (hb1.mono HB.out.size)
      clear hb1 HC
      cases v with
      | true =>
        go_wp2
        go_ret
        exact ⟨i, rfl, ⟨fun _ => ⟨i, hlt, HV.out⟩, fun _ => by omega⟩, HB1.out⟩
      | false =>
        have HA1 : Hid (∀ j, j < i + 1 → A j = false) := fun j h => by
          by_cases e : j = i
          · rw [e]; exact HV.out
          · exact HA.out j (by omega)
        go_wp2
        go_roundw
        case rel => exact ⟨i + 1, by omega, by go_num, HA1, HB1⟩
        case measure => simp [intOf]; omega
    · obtain rfl : i = G.length := by omega
      go_wp2
      go_ret
      exact ⟨-1, rfl, ⟨fun h => absurd h (by omega), fun ⟨j, hj, e⟩ => by rw [HA.out j hj] at e; exact absurd e (by simp)⟩, HB.out⟩
set_option maxRecDepth 100000 in
set_option maxHeartbeats 1600000 in
theorem ctN (z : Nat) (G : List Nat) (A : Nat → Bool) (hG : G.length ≤ 1000) (a : Option Addr) (c : Nat) (W : World) (hl : Lies W a (ptrs G)) (his : ∀ (j : Nat) (h : j < G.length) (X : World), Below W.heap.size W X → Calls Tryz.prog (107) #[.pointer (some ⟨G[j], 0, none⟩), .pointer (some ⟨z, 0, none⟩)] X fun e w' => e = .returned (.bool (A j)) ∧ Below X.heap.size X w') :
    Calls Tryz.prog (92) #[.slice a G.length c, .func (.func 107) #[] #[.pointer (some ⟨z, 0, none⟩)]] W fun e w' => ∃ b : Bool, e = .returned (.bool b) ∧ (b = true ↔ ∃ j, j < G.length ∧ A j = true) ∧ Below W.heap.size W w' := by
  have HC : Hid _ := ixN z G A hG a c W hl his
  clear hl his
  go_enter Tryz.func92, Tryz.ntmps92
  go_wp2_with fail
  refine Calls.mono HC.out ?_
  rintro e w1 ⟨i, rfl, hiff, hb1⟩
  have HIff : Hid _ := hiff
  have HB1 : Hid _ := hb1
  clear hiff hb1
  go_wp2
  go_ret
  exact ⟨decide (0 ≤ i), by first | rfl | simp, by rw [decide_eq_true_iff]; exact HIff.out, HB1.out⟩
set_option maxRecDepth 100000 in
set_option maxHeartbeats 3200000 in
theorem ixE (G : List Nat) (A : Nat → Bool) (hG : G.length ≤ 1000) (a : Option Addr) (c : Nat) (W : World) (hl : Lies W a (ptrs G)) (his : ∀ (j : Nat) (h : j < G.length) (X : World), Below W.heap.size W X → Calls Tryz.prog (62) #[.pointer (some ⟨G[j], 0, none⟩)] X fun e w' => e = .returned (.bool (A j)) ∧ Below X.heap.size X w') :
    Calls Tryz.prog (108) #[.slice a G.length c, .func (.func 62) #[] #[]] W fun e w' => ∃ i : Int, e = .returned (.int .i64 i) ∧ (0 ≤ i ↔ ∃ j, j < G.length ∧ A j = true) ∧ Below W.heap.size W w' := by
  have HL : Hid (Lies W a (ptrs G)) := hl
  have HI : Hid _ := his
  clear hl his
  go_enter Tryz.func108, Tryz.ntmps108
  go_wp2_with fail
  go_loopw [8] (fun x wr => ∃ i : Nat, i ≤ G.length ∧ x = .int .i64 i ∧ Hid (∀ j, j < i → A j = false) ∧ Hid (Below W.heap.size W wr)) (fun x _ => G.length - (intOf x).toNat)
  case atStart => exact ⟨0, Nat.zero_le _, rfl, fun j h => absurd h (Nat.not_lt_zero _), Below.refl _ _⟩
  case round =>
    obtain ⟨i, hik, rfl, HA, HB⟩ := hrel
    by_cases hlt : i < G.length
    · obtain ⟨bb, oo, ea, hc⟩ := (HL.out.keep HB.out) i (by rw [ptrs_len]; exact hlt)
      rw [ptrs_at G i _ hlt] at hc
      subst ea
      have HC : Hid _ := HI.out i hlt wr HB.out
      obtain ⟨g, HGn⟩ := hid_name G[i]
      rw [HGn.out] at HC hc
      obtain ⟨v, HV⟩ := hid_name (A i)
      rw [HV.out] at HC
      have q0 : (0 : Int) ≤ (i : Int) := by omega
      have q1 : (i : Int) < (G.length : Int) := by omega
      go_wp2_with fail
      refine Calls.mono HC.out ?_
      rintro e w1 ⟨rfl, hb1⟩
      have HB1 : Hid (Below W.heap.size W w1) := HB.out.trans (hb1.mono HB.out.size)
      clear hb1 HC
      cases v with
      | true =>
        go_wp2
        go_ret
        exact ⟨i, rfl, ⟨fun _ => ⟨i, hlt, HV.out⟩, fun _ => by omega⟩, HB1.out⟩
      | false =>
        have HA1 : Hid (∀ j, j < i + 1 → A j = false) := fun j h => by
          by_cases e : j = i
          · rw [e]; exact HV.out
          · exact HA.out j (by omega)
        go_wp2
        go_roundw
        case rel => exact ⟨i + 1, by omega, by go_num, HA1, HB1⟩
        case measure => simp [intOf]; omega
    · obtain rfl : i = G.length := by omega
      go_wp2
      go_ret
      exact ⟨-1, rfl, ⟨fun h => absurd h (by omega), fun ⟨j, hj, e⟩ => by rw [HA.out j hj] at e; exact absurd e (by simp)⟩, HB.out⟩
set_option maxRecDepth 100000 in
set_option maxHeartbeats 1600000 in
theorem ctE (G : List Nat) (A : Nat → Bool) (hG : G.length ≤ 1000) (a : Option Addr) (c : Nat) (W : World) (hl : Lies W a (ptrs G)) (his : ∀ (j : Nat) (h : j < G.length) (X : World), Below W.heap.size W X → Calls Tryz.prog (62) #[.pointer (some ⟨G[j], 0, none⟩)] X fun e w' => e = .returned (.bool (A j)) ∧ Below X.heap.size X w') :
    Calls Tryz.prog (92) #[.slice a G.length c, .func (.func 62) #[] #[]] W fun e w' => ∃ b : Bool, e = .returned (.bool b) ∧ (b = true ↔ ∃ j, j < G.length ∧ A j = true) ∧ Below W.heap.size W w' := by
  have HC : Hid _ := ixE G A hG a c W hl his
  clear hl his
  go_enter Tryz.func92, Tryz.ntmps92
  go_wp2_with fail
  refine Calls.mono HC.out ?_
  rintro e w1 ⟨i, rfl, hiff, hb1⟩
  have HIff : Hid _ := hiff
  have HB1 : Hid _ := hb1
  clear hiff hb1
  go_wp2
  go_ret
  exact ⟨decide (0 ≤ i), by first | rfl | simp, by rw [decide_eq_true_iff]; exact HIff.out, HB1.out⟩
set_option maxRecDepth 100000 in
set_option maxHeartbeats 1600000 in
theorem notE (g z : Nat) (v : Bool) (X : World) (hz : X.cell? ⟨z, 0, none⟩ = some (.func (.func 62) #[] #[])) (his : Calls Tryz.prog (62) #[.pointer (some ⟨g, 0, none⟩)] X fun e w' => e = .returned (.bool v) ∧ Below X.heap.size X w') :
    Calls Tryz.prog (107) #[.pointer (some ⟨g, 0, none⟩), .pointer (some ⟨z, 0, none⟩)] X fun e w' => e = .returned (.bool (!v)) ∧ Below X.heap.size X w' := by
  have HI : Hid _ := his
  clear his
  go_enter Tryz.func107, Tryz.ntmps107
  go_wp2_with fail
  refine Calls.mono HI.out ?_
  rintro e w1 ⟨rfl, hb1⟩
  have HB1 : Hid _ := hb1
  clear hb1
  go_wp2
  go_ret
  exact ⟨rfl, HB1.out⟩
set_option maxRecDepth 100000 in
set_option maxHeartbeats 1600000 in
theorem allE (bb : Nat) (G : List Nat) (A : Nat → Bool) (hG : G.length ≤ 1000) (a : Option Addr) (c : Nat) (W : World) (hb4 : W.cell? ⟨bb, 4, none⟩ = some (.slice a G.length c)) (hl : Lies W a (ptrs G)) (his : ∀ (j : Nat) (h : j < G.length) (X : World), Below W.heap.size W X → Calls Tryz.prog (62) #[.pointer (some ⟨G[j], 0, none⟩)] X fun e w' => e = .returned (.bool (A j)) ∧ Below X.heap.size X w') :
    Calls Tryz.prog (91) #[.pointer (some ⟨bb, 0, none⟩), .func (.func 62) #[] #[]] W fun e w' => ∃ b : Bool, e = .returned (.bool b) ∧ (b = true ↔ ∀ j, j < G.length → A j = true) ∧ Below W.heap.size W w' := by
  have hmf : ∀ (fn : Fn) (first cap : Array Value) (w : World), (Instr.makeFunc fn first cap).run Tryz.prog w = .ok (.func fn first cap) w := fun _ _ _ _ => rfl
  obtain ⟨w0, HW0, HX, HB⟩ := one_box W #[.func (.func 62) #[] #[]] 118
  have hb4' : w0.cell? ⟨bb, 4, none⟩ = some (.slice a G.length c) := (HB.out.cell (World.block_lt_of_cell? W _ hb4)).trans hb4
  have HC : Hid _ := ctN W.heap.size G (fun j => !A j) hG a c w0 (hl.keep HB.out) (fun j h X hX => notE G[j] W.heap.size (A j) X (row_one (blk_keep hX HX.out)).1 (his j h X (HB.out.trans (hX.mono HB.out.size))))
  clear hl his hb4
  go_enter Tryz.func91, Tryz.ntmps91
  go_upto_region 1 with fail
  rw [HW0.out]
  go_wp2_with fail
  refine Calls.mono HC.out ?_
  rintro e w1 ⟨b, rfl, hiff, hb1⟩
  have HIff : Hid _ := hiff
  have HB1 : Hid (Below W.heap.size W w1) := HB.out.trans (hb1.mono HB.out.size)
  clear hiff hb1
  go_wp2
  go_ret
  refine ⟨!b, rfl, ⟨fun h j hj => ?_, fun h => ?_⟩, HB1.out⟩
  · cases hA : A j
    · have : b = true := HIff.out.2 ⟨j, hj, by simp [hA]⟩
      rw [this] at h
      exact absurd h (by simp)
    · rfl
  · cases hb : b
    · rfl
    · obtain ⟨j, hj, e⟩ := HIff.out.1 hb
      rw [h j hj] at e
      exact absurd e (by simp)
set_option maxRecDepth 100000 in
set_option maxHeartbeats 1600000 in
theorem agreeE (bb : Nat) (G : List Nat) (t : Bool) (h0 : 0 < G.length) (hG : G.length ≤ 1000) (a : Option Addr) (c : Nat) (W : World) (hb4 : W.cell? ⟨bb, 4, none⟩ = some (.slice a G.length c)) (hl : Lies W a (ptrs G)) (his : ∀ (j : Nat) (h : j < G.length) (X : World), Below W.heap.size W X → Calls Tryz.prog (62) #[.pointer (some ⟨G[j], 0, none⟩)] X fun e w' => e = .returned (.bool t) ∧ Below X.heap.size X w') :
    Calls Tryz.prog (61) #[.pointer (some ⟨bb, 0, none⟩), .func (.func 62) #[] #[]] W fun e w' => e = .returned (.tuple #[.bool t, .nilIface]) ∧ Below W.heap.size W w' := by
  have HC1 : Hid _ := allE bb G (fun _ => t) hG a c W hb4 hl his
  have HC2 : Hid (∀ X, Below W.heap.size W X → _) := fun X hX => ctE G (fun _ => t) hG a c X (hl.keep hX) (fun j h Y hY => his j h Y (hX.trans (hY.mono hX.size)))
  have HB4 : Hid _ := hb4
  clear hl his hb4
  go_enter Tryz.func61, Tryz.ntmps61
  go_wp2_with fail
  refine Calls.mono HC1.out ?_
  rintro e w1 ⟨b, rfl, hiff, hb1⟩
  have HB1 : Hid (Below W.heap.size W w1) := hb1
  have HBt : Hid (b = t) := (by
    show b = t
    rw [Bool.eq_iff_iff, hiff]
    exact ⟨fun h => h 0 h0, fun h _ _ => h⟩)
  clear hiff hb1
  rw [HBt.out]
  cases t with
  | true =>
    go_wp2
    go_ret2
    exact ⟨rfl, HB1.out⟩
  | false =>
    have b4 := (HB1.out.cell (World.block_lt_of_cell? W _ HB4.out)).trans HB4.out
    go_wp2_with fail
    refine Calls.mono (HC2.out w1 HB1.out) ?_
    rintro e w2 ⟨b2, rfl, hiff, hb2⟩
    have HB2 : Hid (Below W.heap.size W w2) := HB1.out.trans (hb2.mono HB1.out.size)
    obtain rfl : b2 = false := by
      cases b2
      · rfl
      · obtain ⟨j, _, e⟩ := hiff.1 rfl
        exact absurd e (by simp)
    clear hiff hb2
    go_wp2
    go_ret2
    exact ⟨rfl, HB2.out⟩
set_option maxRecDepth 100000 in
set_option maxHeartbeats 3200000 in
theorem ixI (b : Nat) (G : List Nat) (A : Nat → Bool) (hG : G.length ≤ 1000) (a : Option Addr) (c : Nat) (W : World) (hl : Lies W a (ptrs G)) (his : ∀ (j : Nat) (h : j < G.length) (X : World), Below W.heap.size W X → Calls Tryz.prog (110) #[.pointer (some ⟨b, 0, none⟩), .pointer (some ⟨G[j], 0, none⟩)] X fun e w' => e = .returned (.bool (A j)) ∧ Below X.heap.size X w') :
    Calls Tryz.prog (108) #[.slice a G.length c, .func (.func 110) #[.pointer (some ⟨b, 0, none⟩)] #[]] W fun e w' => ∃ i : Int, e = .returned (.int .i64 i) ∧ (0 ≤ i ↔ ∃ j, j < G.length ∧ A j = true) ∧ Below W.heap.size W w' := by
  have HL : Hid (Lies W a (ptrs G)) := hl
  have HI : Hid _ := his
  clear hl his
  go_enter Tryz.func108, Tryz.ntmps108
  go_wp2_with fail
  go_loopw [8] (fun x wr => ∃ i : Nat, i ≤ G.length ∧ x = .int .i64 i ∧ Hid (∀ j, j < i → A j = false) ∧ Hid (Below W.heap.size W wr)) (fun x _ => G.length - (intOf x).toNat)
  case atStart => exact ⟨0, Nat.zero_le _, rfl, fun j h => absurd h (Nat.not_lt_zero _), Below.refl _ _⟩
  case round =>
    obtain ⟨i, hik, rfl, HA, HB⟩ := hrel
    by_cases hlt : i < G.length
    · obtain ⟨bb, oo, ea, hc⟩ := (HL.out.keep HB.out) i (by rw [ptrs_len]; exact hlt)
      rw [ptrs_at G i _ hlt] at hc
      subst ea
      have HC : Hid _ := HI.out i hlt wr HB.out
      obtain ⟨g, HGn⟩ := hid_name G[i]
      rw [HGn.out] at HC hc
      obtain ⟨v, HV⟩ := hid_name (A i)
      rw [HV.out] at HC
      have q0 : (0 : Int) ≤ (i : Int) := by omega
      have q1 : (i : Int) < (G.length : Int) := by omega
      go_wp2_with fail
      refine Calls.mono HC.out ?_
      rintro e w1 ⟨rfl, hb1⟩
      have HB1 : Hid (Below W.heap.size W w1) := HB.out.trans (hb1.mono HB.out.size)
      clear hb1 HC
      cases v with
      | true =>
        go_wp2
        go_ret
        exact ⟨i, rfl, ⟨fun _ => ⟨i, hlt, HV.out⟩, fun _ => by omega⟩, HB1.out⟩
      | false =>
        have HA1 : Hid (∀ j, j < i + 1 → A j = false) := fun j h => by
          by_cases e : j = i
          · rw [e]; exact HV.out
          · exact HA.out j (by omega)
        go_wp2
        go_roundw
        case rel => exact ⟨i + 1, by omega, by go_num, HA1, HB1⟩
        case measure => simp [intOf]; omega
    · obtain rfl : i = G.length := by omega
      go_wp2
      go_ret
      exact ⟨-1, rfl, ⟨fun h => absurd h (by omega), fun ⟨j, hj, e⟩ => by rw [HA.out j hj] at e; exact absurd e (by simp)⟩, HB.out⟩
set_option maxRecDepth 100000 in
set_option maxHeartbeats 1600000 in
theorem ctI (b : Nat) (G : List Nat) (A : Nat → Bool) (hG : G.length ≤ 1000) (a : Option Addr) (c : Nat) (W : World) (hl : Lies W a (ptrs G)) (his : ∀ (j : Nat) (h : j < G.length) (X : World), Below W.heap.size W X → Calls Tryz.prog (110) #[.pointer (some ⟨b, 0, none⟩), .pointer (some ⟨G[j], 0, none⟩)] X fun e w' => e = .returned (.bool (A j)) ∧ Below X.heap.size X w') :
    Calls Tryz.prog (92) #[.slice a G.length c, .func (.func 110) #[.pointer (some ⟨b, 0, none⟩)] #[]] W fun e w' => ∃ b : Bool, e = .returned (.bool b) ∧ (b = true ↔ ∃ j, j < G.length ∧ A j = true) ∧ Below W.heap.size W w' := by
  have HC : Hid _ := ixI b G A hG a c W hl his
  clear hl his
  go_enter Tryz.func92, Tryz.ntmps92
  go_wp2_with fail
  refine Calls.mono HC.out ?_
  rintro e w1 ⟨i, rfl, hiff, hb1⟩
  have HIff : Hid _ := hiff
  have HB1 : Hid _ := hb1
  clear hiff hb1
  go_wp2
  go_ret
  exact ⟨decide (0 ≤ i), by first | rfl | simp, by rw [decide_eq_true_iff]; exact HIff.out, HB1.out⟩
set_option maxRecDepth 100000 in
set_option maxHeartbeats 1600000 in
theorem notI (b : Nat) (g z : Nat) (v : Bool) (X : World) (hz : X.cell? ⟨z, 0, none⟩ = some (.func (.func 110) #[.pointer (some ⟨b, 0, none⟩)] #[])) (his : Calls Tryz.prog (110) #[.pointer (some ⟨b, 0, none⟩), .pointer (some ⟨g, 0, none⟩)] X fun e w' => e = .returned (.bool v) ∧ Below X.heap.size X w') :
    Calls Tryz.prog (107) #[.pointer (some ⟨g, 0, none⟩), .pointer (some ⟨z, 0, none⟩)] X fun e w' => e = .returned (.bool (!v)) ∧ Below X.heap.size X w' := by
  have HI : Hid _ := his
  clear his
  go_enter Tryz.func107, Tryz.ntmps107
  go_wp2_with fail
  refine Calls.mono HI.out ?_
  rintro e w1 ⟨rfl, hb1⟩
  have HB1 : Hid _ := hb1
  clear hb1
  go_wp2
  go_ret
  exact ⟨rfl, HB1.out⟩
set_option maxRecDepth 100000 in
set_option maxHeartbeats 1600000 in
theorem allI (b : Nat) (bb : Nat) (G : List Nat) (A : Nat → Bool) (hG : G.length ≤ 1000) (a : Option Addr) (c : Nat) (W : World) (hb4 : W.cell? ⟨bb, 4, none⟩ = some (.slice a G.length c)) (hl : Lies W a (ptrs G)) (his : ∀ (j : Nat) (h : j < G.length) (X : World), Below W.heap.size W X → Calls Tryz.prog (110) #[.pointer (some ⟨b, 0, none⟩), .pointer (some ⟨G[j], 0, none⟩)] X fun e w' => e = .returned (.bool (A j)) ∧ Below X.heap.size X w') :
    Calls Tryz.prog (91) #[.pointer (some ⟨bb, 0, none⟩), .func (.func 110) #[.pointer (some ⟨b, 0, none⟩)] #[]] W fun e w' => ∃ b : Bool, e = .returned (.bool b) ∧ (b = true ↔ ∀ j, j < G.length → A j = true) ∧ Below W.heap.size W w' := by
  have hmf : ∀ (fn : Fn) (first cap : Array Value) (w : World), (Instr.makeFunc fn first cap).run Tryz.prog w = .ok (.func fn first cap) w := fun _ _ _ _ => rfl
  obtain ⟨w0, HW0, HX, HB⟩ := one_box W #[.func (.func 110) #[.pointer (some ⟨b, 0, none⟩)] #[]] 118
  have hb4' : w0.cell? ⟨bb, 4, none⟩ = some (.slice a G.length c) := (HB.out.cell (World.block_lt_of_cell? W _ hb4)).trans hb4
  have HC : Hid _ := ctN W.heap.size G (fun j => !A j) hG a c w0 (hl.keep HB.out) (fun j h X hX => notI b G[j] W.heap.size (A j) X (row_one (blk_keep hX HX.out)).1 (his j h X (HB.out.trans (hX.mono HB.out.size))))
  clear hl his hb4
  go_enter Tryz.func91, Tryz.ntmps91
  go_upto_region 1 with fail
  rw [HW0.out]
  go_wp2_with fail
  refine Calls.mono HC.out ?_
  rintro e w1 ⟨b, rfl, hiff, hb1⟩
  have HIff : Hid _ := hiff
  have HB1 : Hid (Below W.heap.size W w1) := HB.out.trans (hb1.mono HB.out.size)
  clear hiff hb1
  go_wp2
  go_ret
  refine ⟨!b, rfl, ⟨fun h j hj => ?_, fun h => ?_⟩, HB1.out⟩
  · cases hA : A j
    · have : b = true := HIff.out.2 ⟨j, hj, by simp [hA]⟩
      rw [this] at h
      exact absurd h (by simp)
    · rfl
  · cases hb : b
    · rfl
    · obtain ⟨j, hj, e⟩ := HIff.out.1 hb
      rw [h j hj] at e
      exact absurd e (by simp)
set_option maxRecDepth 100000 in
set_option maxHeartbeats 1600000 in
theorem agreeI (b : Nat) (bb : Nat) (G : List Nat) (t : Bool) (h0 : 0 < G.length) (hG : G.length ≤ 1000) (a : Option Addr) (c : Nat) (W : World) (hb4 : W.cell? ⟨bb, 4, none⟩ = some (.slice a G.length c)) (hl : Lies W a (ptrs G)) (his : ∀ (j : Nat) (h : j < G.length) (X : World), Below W.heap.size W X → Calls Tryz.prog (110) #[.pointer (some ⟨b, 0, none⟩), .pointer (some ⟨G[j], 0, none⟩)] X fun e w' => e = .returned (.bool t) ∧ Below X.heap.size X w') :
    Calls Tryz.prog (61) #[.pointer (some ⟨bb, 0, none⟩), .func (.func 110) #[.pointer (some ⟨b, 0, none⟩)] #[]] W fun e w' => e = .returned (.tuple #[.bool t, .nilIface]) ∧ Below W.heap.size W w' := by
  have HC1 : Hid _ := allI b bb G (fun _ => t) hG a c W hb4 hl his
  have HC2 : Hid (∀ X, Below W.heap.size W X → _) := fun X hX => ctI b G (fun _ => t) hG a c X (hl.keep hX) (fun j h Y hY => his j h Y (hX.trans (hY.mono hX.size)))
  have HB4 : Hid _ := hb4
  clear hl his hb4
  go_enter Tryz.func61, Tryz.ntmps61
  go_wp2_with fail
  refine Calls.mono HC1.out ?_
  rintro e w1 ⟨b, rfl, hiff, hb1⟩
  have HB1 : Hid (Below W.heap.size W w1) := hb1
  have HBt : Hid (b = t) := (by
    show b = t
    rw [Bool.eq_iff_iff, hiff]
    exact ⟨fun h => h 0 h0, fun h _ _ => h⟩)
  clear hiff hb1
  rw [HBt.out]
  cases t with
  | true =>
    go_wp2
    go_ret2
    exact ⟨rfl, HB1.out⟩
  | false =>
    have b4 := (HB1.out.cell (World.block_lt_of_cell? W _ HB4.out)).trans HB4.out
    go_wp2_with fail
    refine Calls.mono (HC2.out w1 HB1.out) ?_
    rintro e w2 ⟨b2, rfl, hiff, hb2⟩
    have HB2 : Hid (Below W.heap.size W w2) := HB1.out.trans (hb2.mono HB1.out.size)
    obtain rfl : b2 = false := by
      cases b2
      · rfl
      · obtain ⟨j, _, e⟩ := hiff.1 rfl
        exact absurd e (by simp)
    clear hiff hb2
    go_wp2
    go_ret2
    exact ⟨rfl, HB2.out⟩
set_option maxRecDepth 100000 in
set_option maxHeartbeats 3200000 in
theorem ixL (q : Nat) (G : List Nat) (A : Nat → Bool) (hG : G.length ≤ 1000) (a : Option Addr) (c : Nat) (W : World) (hl : Lies W a (ptrs G)) (his : ∀ (j : Nat) (h : j < G.length) (X : World), Below W.heap.size W X → Calls Tryz.prog (119) #[.pointer (some ⟨G[j], 0, none⟩), .pointer (some ⟨q, 0, none⟩)] X fun e w' => e = .returned (.bool (A j)) ∧ Below X.heap.size X w') :
    Calls Tryz.prog (108) #[.slice a G.length c, .func (.func 119) #[] #[.pointer (some ⟨q, 0, none⟩)]] W fun e w' => ∃ i : Int, e = .returned (.int .i64 i) ∧ (0 ≤ i ↔ ∃ j, j < G.length ∧ A j = true) ∧ Below W.heap.size W w' := by
  have HL : Hid (Lies W a (ptrs G)) := hl
  have HI : Hid _ := his
  clear hl his
  go_enter Tryz.func108, Tryz.ntmps108
  go_wp2_with fail
  go_loopw [8] (fun x wr => ∃ i : Nat, i ≤ G.length ∧ x = .int .i64 i ∧ Hid (∀ j, j < i → A j = false) ∧ Hid (Below W.heap.size W wr)) (fun x _ => G.length - (intOf x).toNat)
  case atStart => exact ⟨0, Nat.zero_le _, rfl, fun j h => absurd h (Nat.not_lt_zero _), Below.refl _ _⟩
  case round =>
    obtain ⟨i, hik, rfl, HA, HB⟩ := hrel
    by_cases hlt : i < G.length
    · obtain ⟨bb, oo, ea, hc⟩ := (HL.out.keep HB.out) i (by rw [ptrs_len]; exact hlt)
      rw [ptrs_at G i _ hlt] at hc
      subst ea
      have HC : Hid _ := HI.out i hlt wr HB.out
      obtain ⟨g, HGn⟩ := hid_name G[i]
      rw [HGn.out] at HC hc
      obtain ⟨v, HV⟩ := hid_name (A i)
      rw [HV.out] at HC
      have q0 : (0 : Int) ≤ (i : Int) := by omega
      have q1 : (i : Int) < (G.length : Int) := by omega
      go_wp2_with fail
      refine Calls.mono HC.out ?_
      rintro e w1 ⟨rfl, hb1⟩
      have HB1 : Hid (Below W.heap.size W w1) := HB.out.trans (hb1.mono HB.out.size)
      clear hb1 HC
      cases v with
      | true =>
        go_wp2
        go_ret
        exact ⟨i, rfl, ⟨fun _ => ⟨i, hlt, HV.out⟩, fun _ => by omega⟩, HB1.out⟩
      | false =>
        have HA1 : Hid (∀ j, j < i + 1 → A j = false) := fun j h => by
          by_cases e : j = i
          · rw [e]; exact HV.out
          · exact HA.out j (by omega)
        go_wp2
        go_roundw
        case rel => exact ⟨i + 1, by omega, by go_num, HA1, HB1⟩
        case measure => simp [intOf]; omega
    · obtain rfl : i = G.length := by omega
      go_wp2
      go_ret
      exact ⟨-1, rfl, ⟨fun h => absurd h (by omega), fun ⟨j, hj, e⟩ => by rw [HA.out j hj] at e; exact absurd e (by simp)⟩, HB.out⟩
set_option maxRecDepth 100000 in
set_option maxHeartbeats 1600000 in
theorem ctL (q : Nat) (G : List Nat) (A : Nat → Bool) (hG : G.length ≤ 1000) (a : Option Addr) (c : Nat) (W : World) (hl : Lies W a (ptrs G)) (his : ∀ (j : Nat) (h : j < G.length) (X : World), Below W.heap.size W X → Calls Tryz.prog (119) #[.pointer (some ⟨G[j], 0, none⟩), .pointer (some ⟨q, 0, none⟩)] X fun e w' => e = .returned (.bool (A j)) ∧ Below X.heap.size X w') :
    Calls Tryz.prog (92) #[.slice a G.length c, .func (.func 119) #[] #[.pointer (some ⟨q, 0, none⟩)]] W fun e w' => ∃ b : Bool, e = .returned (.bool b) ∧ (b = true ↔ ∃ j, j < G.length ∧ A j = true) ∧ Below W.heap.size W w' := by
  have HC : Hid _ := ixL q G A hG a c W hl his
  clear hl his
  go_enter Tryz.func92, Tryz.ntmps92
  go_wp2_with fail
  refine Calls.mono HC.out ?_
  rintro e w1 ⟨i, rfl, hiff, hb1⟩
  have HIff : Hid _ := hiff
  have HB1 : Hid _ := hb1
  clear hiff hb1
  go_wp2
  go_ret
  exact ⟨decide (0 ≤ i), by first | rfl | simp, by rw [decide_eq_true_iff]; exact HIff.out, HB1.out⟩
set_option maxRecDepth 100000 in
set_option maxHeartbeats 1600000 in
theorem notL (q : Nat) (g z : Nat) (v : Bool) (X : World) (hz : X.cell? ⟨z, 0, none⟩ = some (.func (.func 119) #[] #[.pointer (some ⟨q, 0, none⟩)])) (his : Calls Tryz.prog (119) #[.pointer (some ⟨g, 0, none⟩), .pointer (some ⟨q, 0, none⟩)] X fun e w' => e = .returned (.bool v) ∧ Below X.heap.size X w') :
    Calls Tryz.prog (107) #[.pointer (some ⟨g, 0, none⟩), .pointer (some ⟨z, 0, none⟩)] X fun e w' => e = .returned (.bool (!v)) ∧ Below X.heap.size X w' := by
  have HI : Hid _ := his
  clear his
  go_enter Tryz.func107, Tryz.ntmps107
  go_wp2_with fail
  refine Calls.mono HI.out ?_
  rintro e w1 ⟨rfl, hb1⟩
  have HB1 : Hid _ := hb1
  clear hb1
  go_wp2
  go_ret
  exact ⟨rfl, HB1.out⟩
set_option maxRecDepth 100000 in
set_option maxHeartbeats 1600000 in
theorem allL (q : Nat) (bb : Nat) (G : List Nat) (A : Nat → Bool) (hG : G.length ≤ 1000) (a : Option Addr) (c : Nat) (W : World) (hb4 : W.cell? ⟨bb, 4, none⟩ = some (.slice a G.length c)) (hl : Lies W a (ptrs G)) (his : ∀ (j : Nat) (h : j < G.length) (X : World), Below W.heap.size W X → Calls Tryz.prog (119) #[.pointer (some ⟨G[j], 0, none⟩), .pointer (some ⟨q, 0, none⟩)] X fun e w' => e = .returned (.bool (A j)) ∧ Below X.heap.size X w') :
    Calls Tryz.prog (91) #[.pointer (some ⟨bb, 0, none⟩), .func (.func 119) #[] #[.pointer (some ⟨q, 0, none⟩)]] W fun e w' => ∃ b : Bool, e = .returned (.bool b) ∧ (b = true ↔ ∀ j, j < G.length → A j = true) ∧ Below W.heap.size W w' := by
  have hmf : ∀ (fn : Fn) (first cap : Array Value) (w : World), (Instr.makeFunc fn first cap).run Tryz.prog w = .ok (.func fn first cap) w := fun _ _ _ _ => rfl
  obtain ⟨w0, HW0, HX, HB⟩ := one_box W #[.func (.func 119) #[] #[.pointer (some ⟨q, 0, none⟩)]] 118
  have hb4' : w0.cell? ⟨bb, 4, none⟩ = some (.slice a G.length c) := (HB.out.cell (World.block_lt_of_cell? W _ hb4)).trans hb4
  have HC : Hid _ := ctN W.heap.size G (fun j => !A j) hG a c w0 (hl.keep HB.out) (fun j h X hX => notL q G[j] W.heap.size (A j) X (row_one (blk_keep hX HX.out)).1 (his j h X (HB.out.trans (hX.mono HB.out.size))))
  clear hl his hb4
  go_enter Tryz.func91, Tryz.ntmps91
  go_upto_region 1 with fail
  rw [HW0.out]
  go_wp2_with fail
  refine Calls.mono HC.out ?_
  rintro e w1 ⟨b, rfl, hiff, hb1⟩
  have HIff : Hid _ := hiff
  have HB1 : Hid (Below W.heap.size W w1) := HB.out.trans (hb1.mono HB.out.size)
  clear hiff hb1
  go_wp2
  go_ret
  refine ⟨!b, rfl, ⟨fun h j hj => ?_, fun h => ?_⟩, HB1.out⟩
  · cases hA : A j
    · have : b = true := HIff.out.2 ⟨j, hj, by simp [hA]⟩
      rw [this] at h
      exact absurd h (by simp)
    · rfl
  · cases hb : b
    · rfl
    · obtain ⟨j, hj, e⟩ := HIff.out.1 hb
      rw [h j hj] at e
      exact absurd e (by simp)
set_option maxRecDepth 100000 in
set_option maxHeartbeats 1600000 in
theorem agreeL (q : Nat) (bb : Nat) (G : List Nat) (t : Bool) (h0 : 0 < G.length) (hG : G.length ≤ 1000) (a : Option Addr) (c : Nat) (W : World) (hb4 : W.cell? ⟨bb, 4, none⟩ = some (.slice a G.length c)) (hl : Lies W a (ptrs G)) (his : ∀ (j : Nat) (h : j < G.length) (X : World), Below W.heap.size W X → Calls Tryz.prog (119) #[.pointer (some ⟨G[j], 0, none⟩), .pointer (some ⟨q, 0, none⟩)] X fun e w' => e = .returned (.bool t) ∧ Below X.heap.size X w') :
    Calls Tryz.prog (61) #[.pointer (some ⟨bb, 0, none⟩), .func (.func 119) #[] #[.pointer (some ⟨q, 0, none⟩)]] W fun e w' => e = .returned (.tuple #[.bool t, .nilIface]) ∧ Below W.heap.size W w' := by
  have HC1 : Hid _ := allL q bb G (fun _ => t) hG a c W hb4 hl his
  have HC2 : Hid (∀ X, Below W.heap.size W X → _) := fun X hX => ctL q G (fun _ => t) hG a c X (hl.keep hX) (fun j h Y hY => his j h Y (hX.trans (hY.mono hX.size)))
  have HB4 : Hid _ := hb4
  clear hl his hb4
  go_enter Tryz.func61, Tryz.ntmps61
  go_wp2_with fail
  refine Calls.mono HC1.out ?_
  rintro e w1 ⟨b, rfl, hiff, hb1⟩
  have HB1 : Hid (Below W.heap.size W w1) := hb1
  have HBt : Hid (b = t) := (by
    show b = t
    rw [Bool.eq_iff_iff, hiff]
    exact ⟨fun h => h 0 h0, fun h _ _ => h⟩)
  clear hiff hb1
  rw [HBt.out]
  cases t with
  | true =>
    go_wp2
    go_ret2
    exact ⟨rfl, HB1.out⟩
  | false =>
    have b4 := (HB1.out.cell (World.block_lt_of_cell? W _ HB4.out)).trans HB4.out
    go_wp2_with fail
    refine Calls.mono (HC2.out w1 HB1.out) ?_
    rintro e w2 ⟨b2, rfl, hiff, hb2⟩
    have HB2 : Hid (Below W.heap.size W w2) := HB1.out.trans (hb2.mono HB1.out.size)
    obtain rfl : b2 = false := by
      cases b2
      · rfl
      · obtain ⟨j, _, e⟩ := hiff.1 rfl
        exact absurd e (by simp)
    clear hiff hb2
    go_wp2
    go_ret2
    exact ⟨rfl, HB2.out⟩
end Go.Proofs.YtbicfjimlpdnkaaGreatDoor
