/-
  enc.signed and enc.readNumbers: the numbers that bytes are.
-/
import Derived.Test.YtjchkhdmjbojjaaDoorLBWordsMath
import Derived.Test.YtjchkhdmjbojjaaDoorLBSmall
import Derived.Test.YtjchkhdmjbojjaaDoorLBFix
namespace Go.Proofs.YtjchkhdmjbojjaaDoor
open Go.RowKit
/-- What a loop that fills a row of values of its own keeps. -/
structure VRow (f : Nat → Vl) (n g : Nat) (w wr : World) (i : Nat) : Prop where
  done : ∀ j, j < i → wr.cell? ⟨g, j * 3, none⟩ = some (.int .i64 (f j).k) ∧ wr.cell? ⟨g, j * 3 + 1, none⟩ = some (.int .i64 (f j).n) ∧ wr.cell? ⟨g, j * 3 + 2, none⟩ = some (.string (f j).s)
  any : ∀ j, j < n * 3 → ∃ v, wr.cell? ⟨g, j, none⟩ = some v
  froz : ∀ j, j < n * 3 → wr.frozen? ⟨g, j, none⟩ = false
  old : Below w.heap.size w wr
theorem VRow.start (f : Nat → Vl) (n ty : Nat) (w : World) (M : Array Value) (hM : M.size = n * 3) : VRow f n w.heap.size w (w.alloc (.cells M ty)) 0 := by
  refine ⟨fun j h => absurd h (Nat.not_lt_zero _), fun j hj => ?_, fun j _ => ?_, (Below.refl _ _).alloc (Nat.le_refl _) _⟩
  · rw [cell_of_row _ w.heap.size j M ty (0, 0) (heap_alloc_new w _)]
    exact ⟨_, Array.getElem?_eq_getElem (by omega)⟩
  · exact frozen_of_row _ w.heap.size j M ty (heap_alloc_new w _)
theorem VRow.keep {f : Nat → Vl} {n g : Nat} {w wr w' : World} {i : Nat} (h : VRow f n g w wr i) (hg : g < wr.heap.size) (hb : Below wr.heap.size wr w') : VRow f n g w w' i :=
  ⟨fun j hj => ⟨(hb.cell hg).trans (h.done j hj).1, (hb.cell hg).trans (h.done j hj).2.1, (hb.cell hg).trans (h.done j hj).2.2⟩, fun j hj => (h.any j hj).imp fun _ hv => (hb.cell hg).trans hv, fun j hj => (hb.frozen hg).trans (h.froz j hj), h.old.trans (hb.mono h.old.size)⟩
theorem VRow.next {f : Nat → Vl} {n g : Nat} {w wr : World} {i : Nat} (h : VRow f n g w wr i) (hg : w.heap.size ≤ g) (hi : i < n) :
    VRow f n g w (((wr.setCell ⟨g, i * 3, none⟩ (.int .i64 (f i).k)).setCell ⟨g, i * 3 + 1, none⟩ (.int .i64 (f i).n)).setCell ⟨g, i * 3 + 2, none⟩ (.string (f i).s)) (i + 1) := by
  obtain ⟨v0, h0⟩ := h.any (i * 3) (by omega)
  obtain ⟨v1, h1⟩ := h.any (i * 3 + 1) (by omega)
  obtain ⟨v2, h2⟩ := h.any (i * 3 + 2) (by omega)
  have ne : ∀ (W : World) (x j : Nat) (v : Value), j ≠ x → (W.setCell ⟨g, x, none⟩ v).cell? ⟨g, j, none⟩ = W.cell? ⟨g, j, none⟩ := fun W x j v hj =>
    World.cell?_setCell_other _ _ _ _ (fun e => hj (by injection e with _ e; exact e.symm))
  refine ⟨fun j hj => ?_, fun j hj => ?_, fun j hj => by simpa using h.froz j hj, ((h.old.setCell hg _).setCell hg _).setCell hg _⟩
  · by_cases e : j = i
    · subst e
      refine ⟨?_, ?_, ?_⟩
      · rw [ne _ _ _ _ (by omega), ne _ _ _ _ (by omega)]; exact World.cell?_setCell_same _ _ _ h0
      · rw [ne _ _ _ _ (by omega)]; exact World.cell?_setCell_same _ _ _ ((ne _ _ _ _ (by omega)).trans h1)
      · exact World.cell?_setCell_same _ _ _ ((ne _ _ _ _ (by omega)).trans ((ne _ _ _ _ (by omega)).trans h2))
    · obtain ⟨d0, d1, d2⟩ := h.done j (by omega)
      refine ⟨?_, ?_, ?_⟩
      · rw [ne _ _ _ _ (by omega), ne _ _ _ _ (by omega), ne _ _ _ _ (by omega)]; exact d0
      · rw [ne _ _ _ _ (by omega), ne _ _ _ _ (by omega), ne _ _ _ _ (by omega)]; exact d1
      · rw [ne _ _ _ _ (by omega), ne _ _ _ _ (by omega), ne _ _ _ _ (by omega)]; exact d2
  · by_cases e2 : j = i * 3 + 2
    · subst e2; exact ⟨_, World.cell?_setCell_same _ _ _ ((ne _ _ _ _ (by omega)).trans ((ne _ _ _ _ (by omega)).trans h2))⟩
    · rw [ne _ _ _ _ e2]
      by_cases e1 : j = i * 3 + 1
      · subst e1; exact ⟨_, World.cell?_setCell_same _ _ _ ((ne _ _ _ _ (by omega)).trans h1)⟩
      · rw [ne _ _ _ _ e1]
        by_cases e0 : j = i * 3
        · subst e0; exact ⟨_, World.cell?_setCell_same _ _ _ h0⟩
        · rw [ne _ _ _ _ e0]; exact h.any j hj
theorem VRow.lies {f : Nat → Vl} {n g : Nat} {w wr : World} (h : VRow f n g w wr n) : LiesV wr (some ⟨g, 0, none⟩) ((List.range n).map f) := fun j hj => by
  have hj' : j < n := by simpa using hj
  obtain ⟨d0, d1, d2⟩ := h.done j hj'
  refine ⟨g, 0, rfl, ?_, ?_, ?_⟩
  · rw [Nat.zero_add]; simpa using d0
  · rw [Nat.zero_add]; simpa using d1
  · rw [Nat.zero_add]; simpa using d2
theorem signed_four (x : Nat) (h : x < 4294967296) : wrap64 ((x : Int) * 4294967296) / 4294967296 = Um.sgn 4 x := by
  unfold Um.sgn wrap64
  have e : (2 : Nat) ^ (8 * 4 - 1) = 2147483648 := by decide
  have e2 : (2 : Int) ^ (8 * 4) = 4294967296 := by decide
  rw [e, e2]
  split <;> omega
theorem ret_i {a b : Int} (h : a = b) : Ending.returned (.int .i64 a) = .returned (.int .i64 b) := by rw [h]
theorem signed_eight (x : Nat) (h : x < 18446744073709551616) : IntKind.i64.wrap (x : Int) = Um.sgn 8 x := by
  rw [IntKind.wrap_i64]
  unfold Um.sgn
  have e : (2 : Nat) ^ (8 * 8 - 1) = 9223372036854775808 := by decide
  have e2 : (2 : Int) ^ (8 * 8) = 18446744073709551616 := by decide
  rw [e, e2]
  split <;> omega
set_option maxRecDepth 100000 in
theorem signed4_any (x : Nat) (w : World) (h : x < 4294967296) : Calls Tryd.prog 83 #[.int .u64 x, .int .i64 4] w fun e w' => e = .returned (.int .i64 (Um.sgn 4 x)) ∧ w' = w := by
  go_enter Tryd.func83, Tryd.ntmps83
  go_wp2
  go_ret
  exact ⟨ret_i (signed_four x h), rfl⟩
set_option maxRecDepth 100000 in
theorem signed8_any (x : Nat) (w : World) (h : x < 18446744073709551616) : Calls Tryd.prog 83 #[.int .u64 x, .int .i64 8] w fun e w' => e = .returned (.int .i64 (Um.sgn 8 x)) ∧ w' = w := by
  have hs := signed_eight x h
  go_enter Tryd.func83, Tryd.ntmps83
  go_wp2
  go_ret
  exact ⟨rfl, rfl⟩
theorem signed_any (kd : Int) (l : List UInt8) (w : World) (h : l.length ≤ szOf kd) : Calls Tryd.prog 83 #[.int .u64 (Um.lev l : Nat), .int .i64 (szOf kd : Nat)] w fun e w' => e = .returned (.int .i64 (Um.sgn (szOf kd) (Um.lev l))) ∧ w' = w := by
  have hlt := Um.lev_lt l
  have hb : Um.lev l < 2 ^ (8 * szOf kd) := Nat.lt_of_lt_of_le hlt (Nat.pow_le_pow_right (by omega) (by omega))
  rcases szOf_cases kd with e | e
  · rw [e] at hb ⊢; exact signed4_any _ w hb
  · rw [e] at hb ⊢; exact signed8_any _ w hb
theorem sizeOf_any (kd : Int) (w : World) : Calls Tryd.prog 47 #[.int .i64 kd] w fun e w' => e = .returned (.int .i64 (szOf kd : Nat)) ∧ w' = w := by
  unfold szOf
  by_cases h : kd = 2
  · subst h; exact sizeOf_int w
  · rw [if_neg h]; exact sizeOf_long kd w h
/-- What a reader of values answers: the values, or an error. -/
def RetRd (P : List Vl → Prop) (n : Nat) (ev : Value) (e : Ending) (w' : World) : Prop :=
  (∃ vs a c, P vs ∧ e = .returned (.tuple #[.slice a n c, .nilIface]) ∧ LiesV w' a vs) ∨ ((¬ ∃ vs, P vs) ∧ e = .returned (.tuple #[.slice none 0 0, ev]))
theorem drop_ext (s : ByteArray) (k : Nat) : (s.extract k s.size).data.toList = s.data.toList.drop k := by
  rw [ByteArray.data_extract, Array.toList_extract, List.extract_eq_take_drop, List.take_of_length_le]
  rw [List.length_drop, Array.length_toList]
  exact Nat.le_refl _
set_option maxRecDepth 100000 in
set_option maxHeartbeats 1600000 in
theorem readNumbers_any (kd : Int) (s : ByteArray) (n : Nat) (w : World) (st : TypeId) (sp : Value) (hg : w.cell? ⟨0, 0, none⟩ = some (.iface st sp)) (hs : s.size ≤ 1000000) (hn : n ≤ 20000) (hk : kd = 2 ∨ kd = 3 ∨ kd = 5) :
    Calls Tryd.prog 51 #[.int .i64 kd, .string s, .int .i64 n] w fun e w' => RetRd (IsPl kd s.data.toList n) n (.iface st sp) e w' ∧ Below w.heap.size w w' := by
  obtain ⟨iv, hvi, hv0, hv1, hv2⟩ := info_parts Tryd.infoV
  have hsz := szOf_cases kd
  have HLen : Hid (s.data.toList.length = s.size) := Array.length_toList
  have HK : Hid (kd = 2 ∨ kd = 3 ∨ kd = 5) := hk
  obtain ⟨z, HZ⟩ : ∃ z, Hid (z = szOf kd) := ⟨_, rfl⟩
  rw [← HZ.out] at hsz
  have hz8 : z ≤ 8 := by omega
  have hz0 : 1 ≤ z := by omega
  clear hk hsz
  have hmul : z * n ≤ 8 * 20000 := Nat.mul_le_mul hz8 hn
  obtain ⟨T, HT⟩ : ∃ T, Hid (T = z * n) := ⟨_, rfl⟩
  rw [← HT.out] at hmul
  have hti : (z : Int) * (n : Int) = (T : Int) := by rw [HT.out]; simp
  have HG : Hid _ := hg
  clear hg
  by_cases hlen : s.size = T
  · subst hlen
    obtain ⟨M, hM⟩ : ∃ M, M = madeCells (Value.agg #[.int .i64 0, .int .i64 0, .string ⟨#[]⟩]).cells (((n : Nat) : Int).toNat * iv.size) := ⟨_, rfl⟩
    have hMs : M.size = n * 3 := by rw [hM, size_madeCells, hv1]; simp
    have hmk : ∀ W : World, (Instr.makeSlice 22 (.int .i64 (n : Int)) (.int .i64 (n : Int))).run Tryd.prog W = .ok (.slice (some ⟨W.heap.size, 0, none⟩) n n) (W.alloc (.cells M 45)) := fun W => by
      have h := run_make (P := Tryd.prog) W 22 45 iv (.agg #[.int .i64 0, .int .i64 0, .string ⟨#[]⟩]) Tryd.underlying22 hvi hv0 .i64 .i64 (n : Int) (n : Int) (by omega) (by omega) (by rw [hv2]; omega) (by omega)
      rw [← hM] at h
      simpa using h
    have HS : Hid (VRow (fun i => ⟨kd, Um.rdn (szOf kd) s.data.toList i, ⟨#[]⟩⟩) n w.heap.size w (w.alloc (.cells M 45)) 0) := VRow.start _ _ _ _ _ hMs
    clear hM hMs
    go_enter Tryd.func51, Tryd.ntmps51
    go_wp2_with fail
    refine (sizeOf_any kd w).mono ?_
    rw [← HZ.out]
    rintro e w1 ⟨rfl, hw⟩
    obtain rfl := hw.symm
    go_wp2
    clear hmk
    go_loopw [26] (fun x wr => ∃ i : Nat, i ≤ n ∧ x = .int .i64 i ∧ w.heap.size < wr.heap.size ∧ Hid (VRow (fun i => ⟨kd, Um.rdn (szOf kd) s.data.toList i, ⟨#[]⟩⟩) n w.heap.size w wr i)) (fun x _ => n - (intOf x).toNat)
    case atStart => exact ⟨0, Nat.zero_le _, rfl, by simp, HS⟩
    case round =>
      clear HS
      obtain ⟨i, hik, rfl, hsl, HV⟩ := hrel
      by_cases hlt : i < n
      · obtain ⟨q, HQ⟩ : ∃ q, Hid (q = z * i) := ⟨_, rfl⟩
        have hqi : (z : Int) * (i : Int) = (q : Int) := by rw [HQ.out]; simp
        have hqz : q + z ≤ s.size := by
          rw [HQ.out, HT.out]
          have := Nat.mul_le_mul_left z (show i + 1 ≤ n from hlt)
          rw [Nat.mul_add, Nat.mul_one] at this
          exact this
        have hxs : (s.extract q s.size).size = s.size - q := by rw [ByteArray.size_extract]; omega
        have HX : Hid ((s.extract q s.size).data.toList = s.data.toList.drop q) := drop_ext s q
        go_wp2_with fail
        refine (readFixed_ok (s.extract q s.size) z _ hz0 hz8 (by omega) (by omega)).mono ?_
        rw [HX.out]
        rintro e w1 ⟨rfl, hw⟩
        obtain rfl := hw.symm
        have hll : ((s.data.toList.drop q).take z).length ≤ szOf kd := by rw [List.length_take, ← HZ.out]; omega
        obtain ⟨y0, g0⟩ := HV.out.any (i * 3) (by omega)
        obtain ⟨y1, g1⟩ := HV.out.any (i * 3 + 1) (by omega)
        obtain ⟨y2, g2⟩ := HV.out.any (i * 3 + 2) (by omega)
        have f0 := HV.out.froz (i * 3) (by omega)
        have f1 := HV.out.froz (i * 3 + 1) (by omega)
        have f2 := HV.out.froz (i * 3 + 2) (by omega)
        have HF : Hid (Um.sgn (szOf kd) (Um.lev ((s.data.toList.drop q).take z)) = Um.rdn (szOf kd) s.data.toList i) := by
          show _ = _
          unfold Um.rdn
          rw [← HZ.out, ← HQ.out]
        have hsg := signed_any kd ((s.data.toList.drop q).take z) wr hll
        rw [HF.out, ← HZ.out] at hsg
        go_wp2_with fail
        refine hsg.mono ?_
        clear hsg
        rintro e w1 ⟨rfl, hw⟩
        obtain rfl := hw.symm
        have HV2 : Hid _ := HV.out.next (Nat.le_refl _) hlt
        rw [← HZ.out] at HV2
        generalize Um.rdn z s.data.toList i = r at HV2 ⊢
        go_wp2
        go_roundw
        case rel => exact ⟨i + 1, by omega, by go_num, by simpa using hsl, by rw [← HZ.out]; exact HV2⟩
        case measure => simp [intOf]; omega
      · obtain rfl : i = n := by omega
        have HI : Hid (IsPl kd s.data.toList i (rdvs kd s.data.toList i)) := isPl_nums HK.out (by rw [HLen.out, HT.out, HZ.out])
        go_wp2
        go_ret2
        exact ⟨Or.inl ⟨_, _, _, HI.out, rfl, HV.out.lies⟩, HV.out.old⟩
  · have HI : Hid (¬ ∃ vs, IsPl kd s.data.toList n vs) := notPl_nums HK.out (by rw [HLen.out, ← HZ.out, ← HT.out]; exact hlen)
    have hne : ((s.size : Int) != (T : Int)) = true := by simp; omega
    have hg := HG.out
    go_enter Tryd.func51, Tryd.ntmps51
    go_wp2_with fail
    refine (sizeOf_any kd w).mono ?_
    rw [← HZ.out]
    rintro e w1 ⟨rfl, hw⟩
    obtain rfl := hw.symm
    go_wp2
    go_region
    all_goals (try go_wp2)
    all_goals go_ret2
    all_goals exact ⟨Or.inr ⟨HI.out, rfl⟩, (Below.refl _ _).drew⟩
end Go.Proofs.YtjchkhdmjbojjaaDoor
