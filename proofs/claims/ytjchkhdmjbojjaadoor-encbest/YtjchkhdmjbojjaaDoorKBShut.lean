/-
  bitrun.Runs' closure: the open numbers are written as a part of the second kind.
  bitrun.Runs: what its loop begins with, keeps and steps by (the walk itself is not here).
-/
import Derived.Test.YtjchkhdmjbojjaaDoorKShut0
import Derived.Test.YtjchkhdmjbojjaaDoorKBTwiceMath
namespace Go.Proofs.YtjchkhdmjbojjaaDoor
open Go.RowKit
set_option linter.unusedVariables false
set_option maxRecDepth 100000 in
set_option maxHeartbeats 1600000 in
theorem shut_some (w0 : World) (Bl Bw Bb Bo : Nat) (a : Option Addr) (xs : List Int) (c wd : Nat) (w : World) (bs : List UInt8) (op en : Nat) (hI : RI w0 Bl Bw Bb Bo a xs.length c wd w bs op) (hne : Bl ≠ Bb ∧ Bw ≠ Bb ∧ Bo ≠ Bb) (hL : Lies w0 a (i64s xs)) (hc : xs.length ≤ c)
    (hlen : xs.length ≤ 20000) (hwd : wd ≤ 32) (hr : ∀ j (h : j < xs.length), Room wd xs[j]) (hbs : bs.length ≤ 10000000)
    (hoe : op < en) (hen : en ≤ xs.length) :
    Calls Tryd.prog 64 #[.int .i64 en, .pointer (some ⟨Bo, 0, none⟩), .pointer (some ⟨Bb, 0, none⟩), .pointer (some ⟨Bl, 0, none⟩), .pointer (some ⟨Bw, 0, none⟩)] w fun e w' => e = .returned (.tuple #[]) ∧ RI w0 Bl Bw Bb Bo a xs.length c wd w' (bs ++ Um.uv (2 * ((en - op + 7) / 8) + 1) ++ Um.lit (Um.num wd (nats ((xs.take en).drop op))) ((en - op + 7) / 8 * wd)) op := by
  obtain ⟨v, hb, hown⟩ := hI.hb
  have HI : Hid (RI w0 Bl Bw Bb Bo a xs.length c wd w bs op) := hI
  have HB : Hid (w.heap[Bb]? = some (.cells #[v] 76 (0, 0))) := hb
  have HO : Hid (w.ownsRow w0.heap.size 5 1 v bs.length (cellsOf bs)) := hown
  have HL : Hid (Lies w0 a (i64s xs)) := hL
  have HR : Hid (∀ j (h : j < xs.length), Room wd xs[j]) := hr
  have cB := cell_of_one hb
  have fB := free_of_one hb
  have cO := cell_of_one hI.ho
  have cL := cell_of_one hI.hl
  have cW := cell_of_one hI.hw
  obtain ⟨g, HGr⟩ : ∃ g, Hid (g = (en - op + 7) / 8) := ⟨_, rfl⟩
  have hg0 : 0 < g := by rw [HGr.out]; omega
  have hgb : g ≤ 2501 := by rw [HGr.out]; omega
  have hsub : (en : Int) - (op : Int) = ((en - op : Nat) : Int) := by omega
  have h2g : IntKind.i64.wrap (2 * (g : Int)) = 2 * (g : Int) := by rw [IntKind.wrap_i64]; omega
  have HW2 : Hid (IntKind.u64.wrap (IntKind.i64.wrap (2 * (g : Int) + 1)) = ((2 * g + 1 : Nat) : Int)) := wrap_odd g (by omega)
  have hul := Um.uv_ten (n := 2 * g + 1) (by omega)
  obtain ⟨i0, hi, hz0, hz1, hz2⟩ := info_parts Tryd.info5
  rw [← HGr.out]
  clear hI hb hown hL hr
  go_enter Tryd.func64, Tryd.ntmps64
  go_wp2_with fail
  refine (eights_any (en - op) w (by omega)).mono ?_
  rw [← HGr.out]
  rintro e w1 ⟨rfl, hw⟩
  obtain rfl := hw.symm
  go_upto_region 2 with fail
  go_cut [] (fun wx => Hid (RI w0 Bl Bw Bb Bo a xs.length c wd wx (bs ++ Um.uv (2 * g + 1)) op))
  case first =>
    go_region_law (first | (refine step_own_string rfl _ _ 76 9 rfl w0.heap.size 5 i0 Tryd.underlying76 Tryd.underlying9 hi hz0 hz1 hz2 v bs.length (cellsOf bs) rfl hown2 _ rfl (by unfold maxLen; simp [ByteArray.size]; omega) (by simp [ByteArray.size]; omega) (by have := hI2.old.size; omega) ?_; intro v' w3 hown3 hgrow3; obtain ⟨a3, c3, rfl, _⟩ := lies_own hown3; have cB3 := cell_of_one (kept_block hown2 hB2 (by decide) hgrow3); have fB3 := free_of_one (kept_block hown2 hB2 (by decide) hgrow3); have HP3 : Hid _ := hI2.push hne hB2 hown2 hgrow3 (own_str hown3)) | (rw [if_pos (by kernel_rfl)]; go_simp; rw [HW2.out]; refine (uvarint_any (2 * g + 1) _ (by omega)).mono ?_; rintro e w2 ⟨rfl, hb2⟩; have hI2 := HI.out.below ((Below.refl _ _).drew.trans hb2); have hB2 := below_block ((Below.refl _ _).drew.trans hb2) HB.out; have cB2 := cell_of_one hB2; have hown2 := own_kept HO.out ((Below.refl _ _).drew.trans hb2)))
    all_goals (go_wp2_with fail; go_meet; simp only [List.length_append] at HP3; exact HP3)
  case rest =>
    clear HI HB HO cB fB cO cL cW
    have HI : Hid (RI w0 Bl Bw Bb Bo a xs.length c wd wc (bs ++ Um.uv (2 * g + 1)) op) := hcut
    clear hcut
    have hb1 : (bs ++ Um.uv (2 * g + 1)).length ≤ 10000010 := by rw [List.length_append]; omega
    generalize he1 : bs ++ Um.uv (2 * g + 1) = bs1 at HI hb1
    have HE1 : Hid (bs ++ Um.uv (2 * g + 1) = bs1) := he1
    clear he1
    obtain ⟨b, o, rfl, _⟩ := lies_ints HL.out 0 (by omega)
    obtain ⟨v, hb, hown⟩ := HI.out.hb
    have HB : Hid (wc.heap[Bb]? = some (.cells #[v] 76 (0, 0))) := hb
    have HO : Hid (wc.ownsRow w0.heap.size 5 1 v bs1.length (cellsOf bs1)) := hown
    have cB := cell_of_one hb
    have hS0 : wc.cell? ⟨Bl, 0, none⟩ = some (.slice (some ⟨b, o, none⟩) xs.length c) ∧ wc.cell? ⟨Bo, 0, none⟩ = some (.int .i64 op) ∧ wc.cell? ⟨Bw, 0, none⟩ = some (.int .i64 wd) := ⟨cell_of_one HI.out.hl, cell_of_one HI.out.ho, cell_of_one HI.out.hw⟩
    have hS1 : wc.drew.cell? ⟨Bl, 0, none⟩ = some (.slice (some ⟨b, o, none⟩) xs.length c) ∧ wc.drew.cell? ⟨Bo, 0, none⟩ = some (.int .i64 op) ∧ wc.drew.cell? ⟨Bw, 0, none⟩ = some (.int .i64 wd) := by simpa using hS0
    have cL := hS0.1
    have cO := hS0.2.1
    have cW := hS0.2.2
    clear hS0 hS1
    have hsl : ((xs.take en).drop op).length = en - op := by simp; omega
    have hs1 : op ≤ en := by omega
    have hs2 : en ≤ c := by omega
    have hs3 : ¬ c = op := by omega
    have hs4 : (op : Int) ≤ (en : Int) := by omega
    have hs5 : (en : Int) ≤ (c : Int) := by omega
    have hgw : g * wd ≤ 2501 * 32 := Nat.mul_le_mul hgb hwd
    have HMul : Hid (IntKind.i64.wrap ((g : Int) * (wd : Int)) = ((g * wd : Nat) : Int)) := wrap_mul g wd hgw
    have hp := pack_ints ((xs.take en).drop op) wd (g * wd) (some ⟨b, o + op, none⟩) (c - op) wc.drew (by rw [hsl]; omega) hwd (fun j h => by
        rw [hsl] at h
        rw [List.getElem_drop, List.getElem_take]
        exact HR.out _ (by omega)) (by rw [hsl, HGr.out, Nat.mul_comm ((en - op + 7) / 8)]; exact div_room _ _) (by omega) (fun j h => by
        rw [hsl] at h
        obtain ⟨b2, o2, e2, hc2⟩ := lies_ints HL.out (op + j) (by omega)
        obtain ⟨rfl, rfl⟩ : b = b2 ∧ o = o2 := by injection e2 with e2; injection e2 with x y; exact ⟨x, y⟩
        refine ⟨b, o + op, rfl, ?_⟩
        have hlt := World.block_lt_of_cell? w0 _ hc2
        have hc3 := (HI.out.old.cell hlt).trans hc2
        rw [List.getElem_drop, List.getElem_take, Nat.add_assoc]
        simpa using hc3)
    rw [hsl] at hp
    go_wp2_with fail
    go_region_law (first | (refine step_own_slice rfl _ _ 76 rfl w0.heap.size 5 i0 (.int .u8 0) 1 1 Tryd.underlying76 hi hz0 hz1 hz2 rfl (by decide) v bs1.length (cellsOf bs1) rfl hown2 ⟨wc.drew.heap.size, 0, none⟩ (g * wd) (g * wd) (cellsOf (Um.lit (Um.num wd (nats ((xs.take en).drop op))) (g * wd))) rfl (by simp [cellsOf, Um.lit_len]) (hpk2.cells rfl) (by intro u hu; obtain ⟨x, _, rfl⟩ := List.mem_map.1 hu; rfl) (by unfold maxLen; omega) (by omega) (by have := hI2.old.size; omega) ?_; intro v' w3 hown3 hgrow3; obtain ⟨a3, c3, rfl, _⟩ := lies_own hown3; have cB3 := cell_of_one (kept_block hown2 hB2 (by decide) hgrow3); have fB3 := free_of_one (kept_block hown2 hB2 (by decide) hgrow3); have HP3 : Hid _ := hI2.push ⟨hne.1, hne.2.1, hne.2.2⟩ hB2 hown2 hgrow3 (own_lit hown3)) | (rw [if_pos (by kernel_rfl)]; go_simp; rw [HMul.out]; refine hp.mono ?_; rintro e w2 ⟨⟨rfl, hpk2⟩, hb2⟩; have hI2 := HI.out.below ((Below.refl _ _).drew.trans hb2); have hB2 := below_block ((Below.refl _ _).drew.trans hb2) HB.out; have cB2 := cell_of_one hB2; have hown2 := own_kept HO.out ((Below.refl _ _).drew.trans hb2)))
    all_goals (clear hp; go_wp2_with fail; go_end0; refine ⟨rfl, ?_⟩; rw [HE1.out]; simp only [List.length_append] at HP3; exact HP3)
end Go.Proofs.YtjchkhdmjbojjaaDoor

namespace Go.Proofs.YtjchkhdmjbojjaaDoor
open Go.RowKit
set_option linter.unusedVariables false
/-- 'open = i'. -/
theorem RI.setOpen {w0 : World} {Bl Bw Bb Bo : Nat} {a : Option Addr} {n c wd : Nat} {w : World} {bs : List UInt8} {op : Nat} (h : RI w0 Bl Bw Bb Bo a n c wd w bs op) (hne : Bl ≠ Bo ∧ Bw ≠ Bo ∧ Bb ≠ Bo) (op' : Nat) :
    RI w0 Bl Bw Bb Bo a n c wd (w.setCell ⟨Bo, 0, none⟩ (.int .i64 op')) bs op' := by
  obtain ⟨v, h1, h2⟩ := h.hb
  exact ⟨one_other h.hl hne.1 _, one_other h.hw hne.2.1 _, one_setCell h.ho, ⟨v, one_other h1 hne.2.2 _, ownsRow_setCell_other h2 (own_apart h2 h.ho (by decide)) _⟩, h.old.setCell h.new.2 _, h.new⟩
/-- What the loop begins with. -/
theorem RI.start (w w1 : World) (a : Option Addr) (n c wd : Nat) (hb : Below ((w.alloc (.cells #[.slice a n c] 49)).alloc (.cells #[.int .i64 wd] 3)).heap.size ((w.alloc (.cells #[.slice a n c] 49)).alloc (.cells #[.int .i64 wd] 3)) w1) :
    RI w w.heap.size (w.heap.size + 1) w1.heap.size (w1.heap.size + 1) a n c wd ((w1.alloc (.cells #[.slice none 0 0] 76)).alloc (.cells #[.int .i64 ((0 : Nat) : Int)] 3)) [] 0 := by
  have hsz : w.heap.size + 2 ≤ w1.heap.size := by have := hb.size; simpa using this
  have hb0 : Below w.heap.size w w1 := (((Below.refl _ w).alloc (Nat.le_refl _) _).alloc (by simp) _).trans (hb.mono (by simp; omega))
  have hw1 : Below w1.heap.size w1 ((w1.alloc (.cells #[.slice none 0 0] 76)).alloc (.cells #[.int .i64 ((0 : Nat) : Int)] 3)) := ((Below.refl _ w1).alloc (Nat.le_refl _) _).alloc (by simp) _
  have k1 : w1.heap[w.heap.size]? = some (.cells #[.slice a n c] 49 (0, 0)) := (hb.block _ (by simp; omega)).trans (heap_alloc2_old w _ _)
  have k2 : w1.heap[w.heap.size + 1]? = some (.cells #[.int .i64 wd] 3 (0, 0)) := (hb.block _ (by simp)).trans (heap_alloc2_new w _ _)
  refine ⟨below_block hw1 k1, below_block hw1 k2, heap_alloc2_new w1 _ _, ⟨.slice none 0 0, heap_alloc2_old w1 _ _, World.ownsRow_nil _ _ _ _⟩, hb0.trans (hw1.mono hb0.size), by omega, by omega⟩
/-- The open numbers, eight more (at the end fewer). -/
theorem pend_step (xs : List Int) (op i : Nat) (ho : op ≤ i) (hi : i ≤ xs.length) : (xs.take (min (i + 8) xs.length)).drop op = (xs.take i).drop op ++ (xs.drop i).take 8 := by
  apply List.ext_getElem?
  intro j
  by_cases hj : j < i - op
  · rw [List.getElem?_append_left (by simp; omega), List.getElem?_drop, List.getElem?_drop, List.getElem?_take, List.getElem?_take, if_pos (by omega), if_pos (by omega)]
  · rw [List.getElem?_append_right (by simp; omega), List.getElem?_drop, List.getElem?_take, List.getElem?_take, List.getElem?_drop]
    have e : (List.drop op (List.take i xs)).length = i - op := by simp; omega
    rw [e]
    by_cases h8 : j - (i - op) < 8
    · rw [if_pos h8]
      have e2 : i + (j - (i - op)) = op + j := by omega
      rw [e2]
      by_cases hl : op + j < min (i + 8) xs.length
      · rw [if_pos hl]
      · rw [if_neg hl, List.getElem?_eq_none (by omega)]
    · rw [if_neg h8, if_neg (by omega)]
end Go.Proofs.YtjchkhdmjbojjaaDoor
