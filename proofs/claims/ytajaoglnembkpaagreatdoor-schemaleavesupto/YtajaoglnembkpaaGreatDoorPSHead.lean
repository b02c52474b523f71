/-
  schema.headText: exact.
-/
import Derived.Test.YtajaoglnembkpaaGreatDoorPBSGroup2
import Derived.Deep.RegionHeld3
import Derived.Deep.DeepCutAuto
import Derived.Deep.RegionLaw
namespace Go.Proofs.YtajaoglnembkpaaGreatDoor
open Go.RowKit
theorem tab_keep {P : Program} {w w' : World} {name : String} {k : IntKind} {zs : List Int} (h : Lib.TabIs P w name k zs) (hb : Below w.heap.size w w') : Lib.TabIs P w' name k zs := by
  unfold Lib.TabIs World.var? at *
  cases hg : P.globalNamed name with
  | none => simp [hg] at h
  | some g =>
    simp only [hg, Option.bind_some] at h ⊢
    have hlt : g < w.heap.size := by
      rcases Nat.lt_or_ge g w.heap.size with h' | h'
      · exact h'
      · rw [Array.getElem?_eq_none h'] at h; simp at h
    rw [hb.block g hlt]
    exact h
theorem itoa_any (n : Int) (hi : 1 ≤ n ∧ n ≤ 1000) (w : World) (htab : Lib.TabIs Tryz.prog w "internal/strconv.uint64pow10" .u64 Lib.pow10Tab) :
    Calls Tryz.prog 67 #[.int .i64 n] w fun e w' => e = .returned (.string ⟨(Lib.itoa n).toArray⟩) ∧ Below w.heap.size w w' := by
  refine (Tryz.strconv_Itoa n (by omega) (by omega) w htab).mono ?_
  rintro e w' ⟨rfl, k, os, rfl⟩
  refine ⟨rfl, rfl, rfl, rfl, ?_, fun j hj => ?_⟩
  · show w.heap.size ≤ (w.heap ++ os).size
    rw [Array.size_append]
    omega
  · show (w.heap ++ os)[j]? = w.heap[j]?
    rw [Array.getElem?_append_left hj]
theorem one_box (W : World) (c1 : Array Value) (t1 : TypeId) : ∃ w0, Hid (W.alloc (.cells c1 t1) = w0) ∧ Hid (w0.heap[W.heap.size]? = some (.cells c1 t1 (0, 0))) ∧ Hid (Below W.heap.size W w0) := ⟨_, rfl, heap_alloc_new W _, (Below.refl _ _).alloc (Nat.le_refl _) _⟩
set_option maxRecDepth 100000 in
set_option maxHeartbeats 12800000 in
theorem headText_any (id : Int) (nm : ByteArray) (rv : Int) (r k : Nat) (q1 : rv - 1 = (r : Nat)) (a : Option Addr) (m c : Nat) (W : World) (hi : 1 ≤ id ∧ id ≤ 1000) (hn : nm.size ≤ 1000) (hr : r < 3) (hk : k < 6) (htab : Lib.TabIs Tryz.prog W "internal/strconv.uint64pow10" .u64 Lib.pow10Tab) :
    Calls Tryz.prog 37 #[.agg #[.int .i64 id, .string nm, .int .i64 rv, .int .i64 (k : Nat), .slice a m c]] W fun e w' => e = .returned (.string ⟨(hdTx id nm rv (k : Nat)).toArray⟩) ∧ Below W.heap.size W w' := by
  obtain ⟨w0, HW0, HX, HB⟩ := one_box W #[.int .i64 id, .string nm, .int .i64 rv, .int .i64 (k : Nat), .slice a m c] 24
  obtain ⟨rb, HRB⟩ : ∃ rb, Hid (repW.getD r ByteArray.empty = rb) := ⟨_, rfl⟩
  obtain ⟨kb, HKB⟩ : ∃ kb, Hid (kindW.getD k ByteArray.empty = kb) := ⟨_, rfl⟩
  have hlw : W.heap.size < w0.heap.size := lt_of_block HX.out
  obtain ⟨⟨p0, p1, p2, p3, p4⟩, _⟩ := row_five HX.out
  have qw1 : IntKind.i64.wrap (r : Int) = (r : Int) := by rw [IntKind.wrap_i64]; omega
  have qw2 : IntKind.i64.wrap (k : Int) = (k : Int) := by rw [IntKind.wrap_i64]; omega
  have qb1 : (r : Int) < 3 := by omega
  have qb2 : (k : Int) < 6 := by omega
  have q2 : ((k : Nat) : Int) - 0 = (k : Nat) := by omega
  have HTab : Hid _ := htab
  clear htab
  go_enter Tryz.func37, Tryz.ntmps37
  go_upto_region 1 with fail
  rw [HW0.out]
  go_cut [3, 4] (fun x y wx => x = .string rb ∧ y = .string kb ∧ Hid (Below w0.heap.size w0 wx))
  case first =>
    have hbb : Below w0.heap.size w0 w0.drew := (Below.refl _ _).drew
    go_region_law (first
      | (go_simp; (with_reducible refine Calls.mono (repWords_any _) ?_); rintro e w1 ⟨rfl, hst1, hb1⟩; replace hbb := hbb.trans (hb1.mono hbb.size); have g1 := hst1 r hr; rw [Nat.zero_add, HRB.out] at g1; (try replace g1 : w1.cell? ⟨w0.heap.size, r, none⟩ = some (.string rb) := g1); (try replace g2 := (hb1.cell (World.block_lt_of_cell? _ _ g2)).trans g2); replace p2 := (hb1.cell (World.block_lt_of_cell? _ _ p2)).trans p2; replace p3 := (hb1.cell (World.block_lt_of_cell? _ _ p3)).trans p3)
      | (go_simp; (with_reducible refine Calls.mono (kindWords_any _) ?_); rintro e w2 ⟨rfl, hst2, hb2⟩; replace hbb := hbb.trans (hb2.mono hbb.size); have g2 := hst2 k hk; rw [Nat.zero_add, HKB.out] at g2; (try replace g2 : w2.cell? ⟨w0.heap.size, k, none⟩ = some (.string kb) := g2); (try replace g1 := (hb2.cell (World.block_lt_of_cell? _ _ g1)).trans g1); replace p2 := (hb2.cell (World.block_lt_of_cell? _ _ p2)).trans p2; replace p3 := (hb2.cell (World.block_lt_of_cell? _ _ p3)).trans p3))
    all_goals (have HH : Hid _ := hbb; clear hbb; go_wp2; go_meet; exact ⟨rfl, rfl, HH⟩)
  case rest =>
    obtain ⟨rfl, rfl, HB1⟩ := hcut
    rename World => wq
    have HBq : Hid (Below w0.heap.size w0 wq) := HB1
    clear HB1 p0 p1 p2 p3 p4
    have hsz : w0.heap.size ≤ wq.heap.size := HBq.out.size
    have HN : Hid (∀ X, Below w0.heap.size wq X → (X.cell? ⟨W.heap.size, 0, none⟩ = some (.int .i64 id) ∧ X.cell? ⟨W.heap.size, 1, none⟩ = some (.string nm)) ∧ Below w0.heap.size wq X) := fun X hX => (by
      have h := (row_five ((hX.block W.heap.size hlw).trans ((HBq.out.block W.heap.size hlw).trans HX.out))).1
      exact ⟨⟨h.1, h.2.1⟩, hX⟩)
    have HTq : Hid (Lib.TabIs Tryz.prog wq.drew "internal/strconv.uint64pow10" .u64 Lib.pow10Tab) := tab_keep HTab.out ((HB.out.trans (HBq.out.mono HB.out.size)).drew)
    have b10 : Below w0.heap.size wq wq := Below.refl _ _
    have hzr : rb.size ≤ 8 := by
      rw [← HRB.out]
      have : r = 0 ∨ r = 1 ∨ r = 2 := by omega
      rcases this with rfl | rfl | rfl <;> decide
    have hzk : kb.size ≤ 6 := by
      rw [← HKB.out]
      have : k = 0 ∨ k = 1 ∨ k = 2 ∨ k = 3 ∨ k = 4 ∨ k = 5 := by omega
      rcases this with rfl | rfl | rfl | rfl | rfl | rfl <;> decide
    have hzi : (⟨(Lib.itoa id).toArray⟩ : ByteArray).size ≤ 4 := by
      obtain ⟨u, rfl⟩ : ∃ u : Nat, id = u := ⟨id.toNat, by omega⟩
      have h := (dd_len u (by omega)).2
      rw [show Lib.itoa (u : Int) = Lib.decDigits u by unfold Lib.itoa; rw [if_neg (by omega)]; simp]
      simpa [ByteArray.size] using h
    obtain ⟨ib, HIB⟩ : ∃ ib, Hid ((⟨(Lib.itoa id).toArray⟩ : ByteArray) = ib) := ⟨_, rfl⟩
    rw [HIB.out] at hzi
    obtain ⟨s1, HS1⟩ : ∃ s1, Hid (rb ++ ⟨#[32]⟩ = s1) := ⟨_, rfl⟩
    obtain ⟨s2, HS2⟩ : ∃ s2, Hid (s1 ++ kb = s2) := ⟨_, rfl⟩
    obtain ⟨s3, HS3⟩ : ∃ s3, Hid (s2 ++ ⟨#[32]⟩ = s3) := ⟨_, rfl⟩
    obtain ⟨s4, HS4⟩ : ∃ s4, Hid (s3 ++ nm = s4) := ⟨_, rfl⟩
    obtain ⟨s5, HS5⟩ : ∃ s5, Hid (s4 ++ ⟨#[32, 35]⟩ = s5) := ⟨_, rfl⟩
    obtain ⟨s6, HS6⟩ : ∃ s6, Hid (s5 ++ ib = s6) := ⟨_, rfl⟩
    have z1 : s1.size = rb.size + 1 := by rw [← HS1.out, ByteArray.size_append]; rfl
    have z2 : s2.size = s1.size + kb.size := by rw [← HS2.out, ByteArray.size_append]
    have z3 : s3.size = s2.size + 1 := by rw [← HS3.out, ByteArray.size_append]; rfl
    have z4 : s4.size = s3.size + nm.size := by rw [← HS4.out, ByteArray.size_append]
    have z5 : s5.size = s4.size + 2 := by rw [← HS5.out, ByteArray.size_append]; rfl
    have hc1 : ∀ W : World, (Op.stringOp .add rb ⟨#[32]⟩).run Tryz.prog W = .ok (.string s1) W := fun W => by rw [← HS1.out]; exact run_string_add_sum _ _ _ (by rw [show (⟨#[32]⟩ : ByteArray).size = 1 from rfl]; omega)
    have hc2 : ∀ W : World, (Op.stringOp .add s1 kb).run Tryz.prog W = .ok (.string s2) W := fun W => by rw [← HS2.out]; exact run_string_add_sum _ _ _ (by omega)
    have hc3 : ∀ W : World, (Op.stringOp .add s2 ⟨#[32]⟩).run Tryz.prog W = .ok (.string s3) W := fun W => by rw [← HS3.out]; exact run_string_add_sum _ _ _ (by rw [show (⟨#[32]⟩ : ByteArray).size = 1 from rfl]; omega)
    have hc4 : ∀ W : World, (Op.stringOp .add s3 nm).run Tryz.prog W = .ok (.string s4) W := fun W => by rw [← HS4.out]; exact run_string_add_sum _ _ _ (by omega)
    have hc5 : ∀ W : World, (Op.stringOp .add s4 ⟨#[32, 35]⟩).run Tryz.prog W = .ok (.string s5) W := fun W => by rw [← HS5.out]; exact run_string_add_sum _ _ _ (by rw [show (⟨#[32, 35]⟩ : ByteArray).size = 2 from rfl]; omega)
    have hc6 : ∀ W : World, (Op.stringOp .add s5 ib).run Tryz.prog W = .ok (.string s6) W := fun W => by rw [← HS6.out]; exact run_string_add_sum _ _ _ (by omega)
    clear z1 z2 z3 z4 z5 hzr hzk hzi
    have HIt : Hid (∀ w : World, Lib.TabIs Tryz.prog w "internal/strconv.uint64pow10" .u64 Lib.pow10Tab → Calls Tryz.prog 67 #[.int .i64 id] w fun e w' => e = .returned (.string ib) ∧ Below w.heap.size w w') := fun w h => (by rw [← HIB.out]; exact itoa_any id hi w h)
    go_upto_region 2 with fail
    go_region_held3 (fun X => (X.cell? ⟨W.heap.size, 0, none⟩ = some (.int .i64 id) ∧ X.cell? ⟨W.heap.size, 1, none⟩ = some (.string nm)) ∧ Below w0.heap.size wq X) (first | (with_reducible refine HN.out _ ?_; repeat' (first | with_reducible assumption | with_reducible exact b10.drew | with_reducible exact b10 | with_reducible exact hbb.mono hsz))) (first | (go_at_call 67; (with_reducible refine Calls.mono (HIt.out _ HTq.out) ?_); rintro e w1 ⟨rfl, hb1⟩; have hbb : Below wq.heap.size wq w1 := (Below.refl _ _).drew.trans hb1))
    all_goals
      have HE : Hid (s6 = ⟨(hdTx id nm rv (k : Nat)).toArray⟩) := (by
        show _ = _
        have e : ∀ x : ByteArray, x = ⟨x.data.toList.toArray⟩ := fun x => by simp
        rw [e s6]
        congr 2
        rw [← HS6.out, ← HS5.out, ← HS4.out, ← HS3.out, ← HS2.out, ← HS1.out, ← HIB.out, ← HRB.out, ← HKB.out, hdTx, repB, kindB, q1]
        simp [ByteArray.data_append]
        rfl)
      have HBB : Hid (Below W.heap.size W w1) := HB.out.trans ((HBq.out.trans (hbb.mono hsz)).mono HB.out.size)
      go_wp2
      go_ret
      exact ⟨by rw [HE.out]; rfl, HBB.out⟩
end Go.Proofs.YtajaoglnembkpaaGreatDoor
