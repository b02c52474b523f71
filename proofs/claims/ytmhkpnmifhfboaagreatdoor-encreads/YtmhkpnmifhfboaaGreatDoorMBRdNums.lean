/-
  enc.signed and enc.readNumbers: the numbers that bytes are.
  enc.readTexts: the texts that bytes are.
-/
import Derived.Test.YtmhkpnmifhfboaaGreatDoorMBWordsMath
import Derived.Test.YtmhkpnmifhfboaaGreatDoorMBSmall
import Derived.Test.YtmhkpnmifhfboaaGreatDoorMBFix
import Derived.Test.YtmhkpnmifhfboaaGreatDoorMBRd2
namespace Go.Proofs.YtmhkpnmifhfboaaGreatDoor
open Go.RowKit
/-- What a loop that fills a row of values of its own keeps. -/
structure VRow (f : Nat → Vl) (n g : Nat) (w wr : World) (i : Nat) : Prop where
  done : ∀ j, j < i → wr.cell? ⟨g, j * 3, none⟩ = some (.int .i64 (f j).k) ∧ wr.cell? ⟨g, j * 3 + 1, none⟩ = some (.int .i64 (f j).n) ∧ wr.cell? ⟨g, j * 3 + 2, none⟩ = some (.string (f j).s)
  any : ∀ j, j < n * 3 → ∃ v, wr.cell? ⟨g, j, none⟩ = some v
  froz : ∀ j, j < n * 3 → wr.frozen? ⟨g, j, none⟩ = false
  old : Below w.heap.size w wr
theorem VRow.start (f : Nat → Vl) (n ty : Nat) (w : World) (M : Array Value) (hM : M.size = n * 3) : VRow f n w.heap.size w (w.alloc (.cells M ty)) 0 := by
  refine ⟨fun j h => absurd h (Nat.not_lt_zero _), fun j hj => ?_, fun j _ => ?_, (Below.refl _ _).alloc (Nat.le_refl _) _⟩
  · rw [cell_of_row _ w.heap.size j M ty (0, 0) (heap_alloc_new w _)]
    exact ⟨_, Array.getElem?_eq_getElem (by omega)⟩
  · exact frozen_of_row _ w.heap.size j M ty (heap_alloc_new w _)
theorem VRow.keep {f : Nat → Vl} {n g : Nat} {w wr w' : World} {i : Nat} (h : VRow f n g w wr i) (hg : g < wr.heap.size) (hb : Below wr.heap.size wr w') : VRow f n g w w' i :=
  ⟨fun j hj => ⟨(hb.cell hg).trans (h.done j hj).1, (hb.cell hg).trans (h.done j hj).2.1, (hb.cell hg).trans (h.done j hj).2.2⟩, fun j hj => (h.any j hj).imp fun _ hv => (hb.cell hg).trans hv, fun j hj => (hb.frozen hg).trans (h.froz j hj), h.old.trans (hb.mono h.old.size)⟩
theorem VRow.next {f : Nat → Vl} {n g : Nat} {w wr : World} {i : Nat} (h : VRow f n g w wr i) (hg : w.heap.size ≤ g) (hi : i < n) :
    VRow f n g w (((wr.setCell ⟨g, i * 3, none⟩ (.int .i64 (f i).k)).setCell ⟨g, i * 3 + 1, none⟩ (.int .i64 (f i).n)).setCell ⟨g, i * 3 + 2, none⟩ (.string (f i).s)) (i + 1) := by
  obtain ⟨v0, h0⟩ := h.any (i * 3) (by omega)
  obtain ⟨v1, h1⟩ := h.any (i * 3 + 1) (by omega)
  obtain ⟨v2, h2⟩ := h.any (i * 3 + 2) (by omega)
  have ne : ∀ (W : World) (x j : Nat) (v : Value), j ≠ x → (W.setCell ⟨g, x, none⟩ v).cell? ⟨g, j, none⟩ = W.cell? ⟨g, j, none⟩ := fun W x j v hj =>
    World.cell?_setCell_other _ _ _ _ (fun e => hj (by injection e with _ e; exact e.symm))
  refine ⟨fun j hj => ?_, fun j hj => ?_, fun j hj => by simpa using h.froz j hj, ((h.old.setCell hg _).setCell hg _).setCell hg _⟩
  · by_cases e : j = i
    · subst e
      refine ⟨?_, ?_, ?_⟩
      · rw [ne _ _ _ _ (by omega), ne _ _ _ _ (by omega)]; exact World.cell?_setCell_same _ _ _ h0
      · rw [ne _ _ _ _ (by omega)]; exact World.cell?_setCell_same _ _ _ ((ne _ _ _ _ (by omega)).trans h1)
      · exact World.cell?_setCell_same _ _ _ ((ne _ _ _ _ (by omega)).trans ((ne _ _ _ _ (by omega)).trans h2))
    · obtain ⟨d0, d1, d2⟩ := h.done j (by omega)
      refine ⟨?_, ?_, ?_⟩
      · rw [ne _ _ _ _ (by omega), ne _ _ _ _ (by omega), ne _ _ _ _ (by omega)]; exact d0
      · rw [ne _ _ _ _ (by omega), ne _ _ _ _ (by omega), ne _ _ _ _ (by omega)]; exact d1
      · rw [ne _ _ _ _ (by omega), ne _ _ _ _ (by omega), ne _ _ _ _ (by omega)]; exact d2
  · by_cases e2 : j = i * 3 + 2
    · subst e2; exact ⟨_, World.cell?_setCell_same _ _ _ ((ne _ _ _ _ (by omega)).trans ((ne _ _ _ _ (by omega)).trans h2))⟩
    · rw [ne _ _ _ _ e2]
      by_cases e1 : j = i * 3 + 1
      · subst e1; exact ⟨_, World.cell?_setCell_same _ _ _ ((ne _ _ _ _ (by omega)).trans h1)⟩
      · rw [ne _ _ _ _ e1]
        by_cases e0 : j = i * 3
        · subst e0; exact ⟨_, World.cell?_setCell_same _ _ _ h0⟩
        · rw [ne _ _ _ _ e0]; exact h.any j hj
theorem VRow.lies {f : Nat → Vl} {n g : Nat} {w wr : World} (h : VRow f n g w wr n) : LiesV wr (some ⟨g, 0, none⟩) ((List.range n).map f) := fun j hj => by
  have hj' : j < n := by simpa using hj
  obtain ⟨d0, d1, d2⟩ := h.done j hj'
  refine ⟨g, 0, rfl, ?_, ?_, ?_⟩
  · rw [Nat.zero_add]; simpa using d0
  · rw [Nat.zero_add]; simpa using d1
  · rw [Nat.zero_add]; simpa using d2
theorem signed_four (x : Nat) (h : x < 4294967296) : wrap64 ((x : Int) * 4294967296) / 4294967296 = Um.sgn 4 x := by
  unfold Um.sgn wrap64
  have e : (2 : Nat) ^ (8 * 4 - 1) = 2147483648 := by decide
  have e2 : (2 : Int) ^ (8 * 4) = 4294967296 := by decide
  rw [e, e2]
  split <;> omega
theorem ret_i {a b : Int} (h : a = b) : Ending.returned (.int .i64 a) = .returned (.int .i64 b) := by rw [h]
theorem signed_eight (x : Nat) (h : x < 18446744073709551616) : IntKind.i64.wrap (x : Int) = Um.sgn 8 x := by
  rw [IntKind.wrap_i64]
  unfold Um.sgn
  have e : (2 : Nat) ^ (8 * 8 - 1) = 9223372036854775808 := by decide
  have e2 : (2 : Int) ^ (8 * 8) = 18446744073709551616 := by decide
  rw [e, e2]
  split <;> omega
set_option maxRecDepth 100000 in
theorem signed4_any (x : Nat) (w : World) (h : x < 4294967296) : Calls Tryz.prog 62 #[.int .u64 x, .int .i64 4] w fun e w' => e = .returned (.int .i64 (Um.sgn 4 x)) ∧ w' = w := by
  go_enter Tryz.func62, Tryz.ntmps62
  go_wp2
  go_ret
  exact ⟨ret_i (signed_four x h), rfl⟩
set_option maxRecDepth 100000 in
theorem signed8_any (x : Nat) (w : World) (h : x < 18446744073709551616) : Calls Tryz.prog 62 #[.int .u64 x, .int .i64 8] w fun e w' => e = .returned (.int .i64 (Um.sgn 8 x)) ∧ w' = w := by
  have hs := signed_eight x h
  go_enter Tryz.func62, Tryz.ntmps62
  go_wp2
  go_ret
  exact ⟨rfl, rfl⟩
theorem signed_any (kd : Int) (l : List UInt8) (w : World) (h : l.length ≤ szOf kd) : Calls Tryz.prog 62 #[.int .u64 (Um.lev l : Nat), .int .i64 (szOf kd : Nat)] w fun e w' => e = .returned (.int .i64 (Um.sgn (szOf kd) (Um.lev l))) ∧ w' = w := by
  have hlt := Um.lev_lt l
  have hb : Um.lev l < 2 ^ (8 * szOf kd) := Nat.lt_of_lt_of_le hlt (Nat.pow_le_pow_right (by omega) (by omega))
  rcases szOf_cases kd with e | e
  · rw [e] at hb ⊢; exact signed4_any _ w hb
  · rw [e] at hb ⊢; exact signed8_any _ w hb
theorem sizeOf_any (kd : Int) (w : World) : Calls Tryz.prog 30 #[.int .i64 kd] w fun e w' => e = .returned (.int .i64 (szOf kd : Nat)) ∧ w' = w := by
  unfold szOf
  by_cases h : kd = 2
  · subst h; exact sizeOf_int w
  · rw [if_neg h]; exact sizeOf_long kd w h
/-- What a reader of values answers: the values, or an error. -/
def RetRd (P : List Vl → Prop) (n : Nat) (ev : Value) (e : Ending) (w' : World) : Prop :=
  (∃ vs a c, P vs ∧ e = .returned (.tuple #[.slice a n c, .nilIface]) ∧ LiesV w' a vs) ∨ ((¬ ∃ vs, P vs) ∧ e = .returned (.tuple #[.slice none 0 0, ev]))
theorem drop_ext (s : ByteArray) (k : Nat) : (s.extract k s.size).data.toList = s.data.toList.drop k := by
  rw [ByteArray.data_extract, Array.toList_extract, List.extract_eq_take_drop, List.take_of_length_le]
  rw [List.length_drop, Array.length_toList]
  exact Nat.le_refl _
set_option maxRecDepth 100000 in
set_option maxHeartbeats 1600000 in
theorem readNumbers_any (kd : Int) (s : ByteArray) (n : Nat) (w : World) (st : TypeId) (sp : Value) (hg : w.cell? ⟨3, 0, none⟩ = some (.iface st sp)) (hs : s.size ≤ 1000000) (hn : n ≤ 20000) (hk : kd = 2 ∨ kd = 3 ∨ kd = 5) :
    Calls Tryz.prog 34 #[.int .i64 kd, .string s, .int .i64 n] w fun e w' => RetRd (IsPl kd s.data.toList n) n (.iface st sp) e w' ∧ Below w.heap.size w w' := by
  obtain ⟨iv, hvi, hv0, hv1, hv2⟩ := info_parts Tryz.infoV
  have hsz := szOf_cases kd
  have HLen : Hid (s.data.toList.length = s.size) := Array.length_toList
  have HK : Hid (kd = 2 ∨ kd = 3 ∨ kd = 5) := hk
  obtain ⟨z, HZ⟩ : ∃ z, Hid (z = szOf kd) := ⟨_, rfl⟩
  rw [← HZ.out] at hsz
  have hz8 : z ≤ 8 := by omega
  have hz0 : 1 ≤ z := by omega
  clear hk hsz
  have hmul : z * n ≤ 8 * 20000 := Nat.mul_le_mul hz8 hn
  obtain ⟨T, HT⟩ : ∃ T, Hid (T = z * n) := ⟨_, rfl⟩
  rw [← HT.out] at hmul
  have hti : (z : Int) * (n : Int) = (T : Int) := by rw [HT.out]; simp
  have HG : Hid _ := hg
  clear hg
  by_cases hlen : s.size = T
  · subst hlen
    obtain ⟨M, hM⟩ : ∃ M, M = madeCells (Value.agg #[.int .i64 0, .int .i64 0, .string ⟨#[]⟩]).cells (((n : Nat) : Int).toNat * iv.size) := ⟨_, rfl⟩
    have hMs : M.size = n * 3 := by rw [hM, size_madeCells, hv1]; simp
    have hmk : ∀ W : World, (Instr.makeSlice 26 (.int .i64 (n : Int)) (.int .i64 (n : Int))).run Tryz.prog W = .ok (.slice (some ⟨W.heap.size, 0, none⟩) n n) (W.alloc (.cells M 40)) := fun W => by
      have h := run_make (P := Tryz.prog) W 26 40 iv (.agg #[.int .i64 0, .int .i64 0, .string ⟨#[]⟩]) Tryz.underlying26 hvi hv0 .i64 .i64 (n : Int) (n : Int) (by omega) (by omega) (by rw [hv2]; omega) (by omega)
      rw [← hM] at h
      simpa using h
    have HS : Hid (VRow (fun i => ⟨kd, Um.rdn (szOf kd) s.data.toList i, ⟨#[]⟩⟩) n w.heap.size w (w.alloc (.cells M 40)) 0) := VRow.start _ _ _ _ _ hMs
    clear hM hMs
    go_enter Tryz.func34, Tryz.ntmps34
    go_wp2_with fail
    refine (sizeOf_any kd w).mono ?_
    rw [← HZ.out]
    rintro e w1 ⟨rfl, hw⟩
    obtain rfl := hw.symm
    go_wp2
    clear hmk
    go_loopw [26] (fun x wr => ∃ i : Nat, i ≤ n ∧ x = .int .i64 i ∧ w.heap.size < wr.heap.size ∧ Hid (VRow (fun i => ⟨kd, Um.rdn (szOf kd) s.data.toList i, ⟨#[]⟩⟩) n w.heap.size w wr i)) (fun x _ => n - (intOf x).toNat)
    case atStart => exact ⟨0, Nat.zero_le _, rfl, by simp, HS⟩
    case round =>
      clear HS
      obtain ⟨i, hik, rfl, hsl, HV⟩ := hrel
      by_cases hlt : i < n
      · obtain ⟨q, HQ⟩ : ∃ q, Hid (q = z * i) := ⟨_, rfl⟩
        have hqi : (z : Int) * (i : Int) = (q : Int) := by rw [HQ.out]; simp
        have hqz : q + z ≤ s.size := by
          rw [HQ.out, HT.out]
          have := Nat.mul_le_mul_left z (show i + 1 ≤ n from hlt)
          rw [Nat.mul_add, Nat.mul_one] at this
          exact this
        have hxs : (s.extract q s.size).size = s.size - q := by rw [ByteArray.size_extract]; omega
        have HX : Hid ((s.extract q s.size).data.toList = s.data.toList.drop q) := drop_ext s q
        go_wp2_with fail
        refine (readFixed_ok (s.extract q s.size) z _ hz0 hz8 (by omega) (by omega)).mono ?_
        rw [HX.out]
        rintro e w1 ⟨rfl, hw⟩
        obtain rfl := hw.symm
        have hll : ((s.data.toList.drop q).take z).length ≤ szOf kd := by rw [List.length_take, ← HZ.out]; omega
        obtain ⟨y0, g0⟩ := HV.out.any (i * 3) (by omega)
        obtain ⟨y1, g1⟩ := HV.out.any (i * 3 + 1) (by omega)
        obtain ⟨y2, g2⟩ := HV.out.any (i * 3 + 2) (by omega)
        have f0 := HV.out.froz (i * 3) (by omega)
        have f1 := HV.out.froz (i * 3 + 1) (by omega)
        have f2 := HV.out.froz (i * 3 + 2) (by omega)
        have HF : Hid (Um.sgn (szOf kd) (Um.lev ((s.data.toList.drop q).take z)) = Um.rdn (szOf kd) s.data.toList i) := by
          show _ = _
          unfold Um.rdn
          rw [← HZ.out, ← HQ.out]
        have hsg := signed_any kd ((s.data.toList.drop q).take z) wr hll
        rw [HF.out, ← HZ.out] at hsg
        go_wp2_with fail
        refine hsg.mono ?_
        clear hsg
        rintro e w1 ⟨rfl, hw⟩
        obtain rfl := hw.symm
        have HV2 : Hid _ := HV.out.next (Nat.le_refl _) hlt
        rw [← HZ.out] at HV2
        generalize Um.rdn z s.data.toList i = r at HV2 ⊢
        go_wp2
        go_roundw
        case rel => exact ⟨i + 1, by omega, by go_num, by simpa using hsl, by rw [← HZ.out]; exact HV2⟩
        case measure => simp [intOf]; omega
      · obtain rfl : i = n := by omega
        have HI : Hid (IsPl kd s.data.toList i (rdvs kd s.data.toList i)) := isPl_nums HK.out (by rw [HLen.out, HT.out, HZ.out])
        go_wp2
        go_ret2
        exact ⟨Or.inl ⟨_, _, _, HI.out, rfl, HV.out.lies⟩, HV.out.old⟩
  · have HI : Hid (¬ ∃ vs, IsPl kd s.data.toList n vs) := notPl_nums HK.out (by rw [HLen.out, ← HZ.out, ← HT.out]; exact hlen)
    have hne : ((s.size : Int) != (T : Int)) = true := by simp; omega
    have hg := HG.out
    go_enter Tryz.func34, Tryz.ntmps34
    go_wp2_with fail
    refine (sizeOf_any kd w).mono ?_
    rw [← HZ.out]
    rintro e w1 ⟨rfl, hw⟩
    obtain rfl := hw.symm
    go_wp2
    go_region
    all_goals (try go_wp2)
    all_goals go_ret2
    all_goals exact ⟨Or.inr ⟨HI.out, rfl⟩, (Below.refl _ _).drew⟩
end Go.Proofs.YtmhkpnmifhfboaaGreatDoor

namespace Go.Proofs.YtmhkpnmifhfboaaGreatDoor
open Go.RowKit
theorem VRow.congr {f f' : Nat → Vl} {n g : Nat} {w wr : World} {i : Nat} (h : VRow f n g w wr i) (he : ∀ j, j < i → f j = f' j) : VRow f' n g w wr i :=
  ⟨fun j hj => by rw [← he j hj]; exact h.done j hj, h.any, h.froz, h.old⟩
/-- A text as a value. -/
def tv (l : List UInt8) : Vl := ⟨4, 0, ⟨l.toArray⟩⟩
theorem ext_take (s : ByteArray) (k m : Nat) : (s.extract k (k + m)).data.toList = (s.data.toList.drop k).take m := by
  rw [ByteArray.data_extract, Array.toList_extract, List.extract_eq_take_drop]
  congr 1; omega
theorem ba_mk (s : ByteArray) : (⟨s.data.toList.toArray⟩ : ByteArray) = s := by cases s; simp
set_option maxRecDepth 100000 in
set_option maxHeartbeats 1600000 in
theorem readTexts_any (s : ByteArray) (n : Nat) (w : World) (st : TypeId) (sp : Value) (hg : w.cell? ⟨3, 0, none⟩ = some (.iface st sp)) (hs : s.size ≤ 1000000) (hn : n ≤ 20000) :
    Calls Tryz.prog 33 #[.string s, .int .i64 n] w fun e w' => RetRd (IsPl 4 s.data.toList n) n (.iface st sp) e w' ∧ Below w.heap.size w w' := by
  obtain ⟨iv, hvi, hv0, hv1, hv2⟩ := info_parts Tryz.infoV
  obtain ⟨M, hM⟩ : ∃ M, M = madeCells (Value.agg #[.int .i64 0, .int .i64 0, .string ⟨#[]⟩]).cells (((n : Nat) : Int).toNat * iv.size) := ⟨_, rfl⟩
  have hMs : M.size = n * 3 := by rw [hM, size_madeCells, hv1]; simp
  have hmk : ∀ W : World, (Instr.makeSlice 26 (.int .i64 (n : Int)) (.int .i64 (n : Int))).run Tryz.prog W = .ok (.slice (some ⟨W.heap.size, 0, none⟩) n n) (W.alloc (.cells M 40)) := fun W => by
    have h := run_make (P := Tryz.prog) W 26 40 iv (.agg #[.int .i64 0, .int .i64 0, .string ⟨#[]⟩]) Tryz.underlying26 hvi hv0 .i64 .i64 (n : Int) (n : Int) (by omega) (by omega) (by rw [hv2]; omega) (by omega)
    rw [← hM] at h
    simpa using h
  have HS : Hid (VRow (fun j => tv (([] : List (List UInt8)).getD j [])) n w.heap.size w (w.alloc (.cells M 40)) 0) := VRow.start _ _ _ _ _ hMs
  have HG : Hid _ := hg
  clear hM hMs hg
  go_enter Tryz.func33, Tryz.ntmps33
  go_wp2
  clear hmk
  go_loopw [0, 15] (fun y x wr => ∃ (i : Nat) (r : ByteArray) (ss : List (List UInt8)), i ≤ n ∧ x = .int .i64 i ∧ y = .string r ∧ r.size ≤ s.size ∧ w.heap.size < wr.heap.size ∧ Hid (ss.length = i) ∧ Hid (Um.rdt n s.data.toList = (Um.rdt (n - i) r.data.toList).map fun q => ss ++ q) ∧ Hid (VRow (fun j => tv (ss.getD j [])) n w.heap.size w wr i)) (fun _ x _ => n - (intOf x).toNat)
  case atStart => exact ⟨0, s, [], Nat.zero_le _, rfl, rfl, Nat.le_refl _, by simp, rfl, by show _ = _; simp, HS⟩
  case round =>
    clear HS
    obtain ⟨i, r, ss, hik, rfl, rfl, hrs, hsl, HSL, HRD, HV⟩ := hrel
    have hb := HV.out.old
    have hgr := (hb.cell (World.block_lt_of_cell? w _ HG.out)).trans HG.out
    by_cases hlt : i < n
    · generalize hp : Um.rdv r.data.toList 0 0 = p
      obtain ⟨m, k⟩ := p
      have HP : Hid (Um.rdv r.data.toList 0 0 = (m, k)) := hp
      clear hp
      have hroom := Um.rdv_room r.data.toList 0 0 (by simp)
      rw [HP.out] at hroom
      have hk10 : k ≤ 10 := hroom.2.1
      have HSt : Hid (Um.rdt (n - i) r.data.toList = if 0 < k ∧ m ≤ 100 ∧ k + m ≤ r.size then (Um.rdt (n - (i + 1)) (r.data.toList.drop (k + m))).map (fun q => (r.data.toList.drop k).take m :: q) else none) := by
        show _ = _
        rw [show n - i = (n - (i + 1)) + 1 by omega, Um.rdt, HP.out]
        rfl
      clear hroom
      by_cases hk : 0 < k
      · by_cases hf : k + m ≤ r.size
        · have hxt : (r.extract k (k + m)).size = m := by rw [ByteArray.size_extract]; omega
          have HX : Hid ((r.extract k (k + m)).data.toList = (r.data.toList.drop k).take m) := ext_take r k m
          by_cases hm : m ≤ 100
          · go_wp2_with fail
            refine (readT_hit r _ _ m k (by omega) hgr HP.out hk (by omega) hf).mono ?_
            rintro e w1 ⟨rfl, hb1⟩
            have HV1 : Hid _ := HV.out.keep hsl hb1
            obtain ⟨y0, g0⟩ := HV1.out.any (i * 3) (by omega)
            obtain ⟨y1, g1⟩ := HV1.out.any (i * 3 + 1) (by omega)
            obtain ⟨y2, g2⟩ := HV1.out.any (i * 3 + 2) (by omega)
            have f0 := HV1.out.froz (i * 3) (by omega)
            have f1 := HV1.out.froz (i * 3 + 1) (by omega)
            have f2 := HV1.out.froz (i * 3 + 2) (by omega)
            have HV2 : Hid (VRow (fun j => tv ((ss ++ [(r.data.toList.drop k).take m]).getD j [])) n w.heap.size w (((w1.setCell ⟨w.heap.size, i * 3, none⟩ (.int .i64 4)).setCell ⟨w.heap.size, i * 3 + 1, none⟩ (.int .i64 0)).setCell ⟨w.heap.size, i * 3 + 2, none⟩ (.string (r.extract k (k + m)))) (i + 1)) := by
              have hc : VRow (fun j => tv ((ss ++ [(r.data.toList.drop k).take m]).getD j [])) n w.heap.size w w1 i := HV1.out.congr fun j hj => by
                have hj' : j < ss.length := by rw [HSL.out]; exact hj
                simp [List.getD, List.getElem?_append_left hj']
              have h := hc.next (Nat.le_refl _) hlt
              have e : (ss ++ [(r.data.toList.drop k).take m]).getD i [] = (r.data.toList.drop k).take m := by
                rw [← HSL.out]; simp [List.getD]
              simp only [e] at h
              have e2 : (tv ((r.data.toList.drop k).take m)).s = r.extract k (k + m) := by
                unfold tv
                simp only
                rw [← HX.out, ba_mk]
              rw [e2] at h
              exact h
            generalize r.extract k (k + m) = x at *
            obtain ⟨q, HQ⟩ : ∃ q, Hid (q = k + m) := ⟨_, rfl⟩
            have hqr : q ≤ r.size := by rw [HQ.out]; exact hf
            have hrx : (r.extract q r.size).size ≤ s.size := by rw [ByteArray.size_extract]; omega
            have HRX : Hid ((r.extract q r.size).data.toList = r.data.toList.drop (k + m)) := by show _ = _; rw [← HQ.out]; exact drop_ext r q
            have hsl1 : w.heap.size < w1.heap.size := Nat.lt_of_lt_of_le hsl hb1.size
            have hci : (k : Int) + (m : Int) = (q : Int) := by rw [HQ.out]; omega
            go_wp2
            go_roundw
            case rel =>
              refine ⟨i + 1, r.extract q r.size, ss ++ [(r.data.toList.drop k).take m], by omega, by go_num, rfl, hrx, by simpa using hsl1, by show _ = _; rw [List.length_append, HSL.out]; rfl, ?_, HV2⟩
              show _ = _
              rw [HRD.out, HSt.out, if_pos ⟨hk, hm, hf⟩, HRX.out, Option.map_map]
              congr 1
              funext q
              simp
            case measure => simp [intOf]; omega
          · have h2 : m ≤ 200000 ∨ ¬ m ≤ 200000 := by omega
            go_wp2_with fail
            rcases h2 with h2 | h2
            · refine (readT_hit r _ _ m k (by omega) hgr HP.out hk h2 hf).mono ?_
              rintro e w1 ⟨rfl, hb1⟩
              have hg1 := (hb1.cell (World.block_lt_of_cell? wr _ hgr)).trans hgr
              generalize r.extract k (k + m) = x at *
              have HNo : Hid (Um.rdt n s.data.toList = none) := by
                show _ = _
                rw [HRD.out, HSt.out, if_neg (by omega)]; rfl
              go_wp2
              go_region
              all_goals (try go_wp2)
              all_goals go_ret2
              all_goals exact ⟨Or.inr ⟨notPl_texts HNo.out, rfl⟩, (hb.trans (hb1.mono hb.size)).drew⟩
            · refine (readT_long r _ _ m k (by omega) hgr HP.out hk (Or.inr (by omega))).mono ?_
              rintro e w1 ⟨rfl, hb1⟩
              have HNo : Hid (Um.rdt n s.data.toList = none) := by
                show _ = _
                rw [HRD.out, HSt.out, if_neg (by omega)]; rfl
              go_wp2
              go_ret2
              exact ⟨Or.inr ⟨notPl_texts HNo.out, rfl⟩, hb.trans (hb1.mono hb.size)⟩
        · have HNo : Hid (Um.rdt n s.data.toList = none) := by
            show _ = _
            rw [HRD.out, HSt.out, if_neg (by omega)]; rfl
          go_wp2_with fail
          refine (readT_long r _ _ m k (by omega) hgr HP.out hk (Or.inl (by omega))).mono ?_
          rintro e w1 ⟨rfl, hb1⟩
          go_wp2
          go_ret2
          exact ⟨Or.inr ⟨notPl_texts HNo.out, rfl⟩, hb.trans (hb1.mono hb.size)⟩
      · have HNo : Hid (Um.rdt n s.data.toList = none) := by
          show _ = _
          rw [HRD.out, HSt.out, if_neg (by omega)]; rfl
        obtain rfl : k = 0 := by omega
        have HP0 : Hid (Um.rdv r.data.toList 0 0 = (0, 0)) := by
          show _ = _
          rw [HP.out, Um.rdv_zero HP.out]
        go_wp2_with fail
        refine (readT_none r _ _ _ (by unfold maxLen; omega) hgr HP0.out).mono ?_
        rintro e w1 ⟨rfl, hb1⟩
        go_wp2
        go_ret2
        exact ⟨Or.inr ⟨notPl_texts HNo.out, rfl⟩, hb.trans (hb1.mono hb.size)⟩
    · obtain rfl : i = n := by omega
      have hrd := HRD.out
      rw [Nat.sub_self, Um.rdt] at hrd
      by_cases he : r.data.toList = []
      · have HI : Hid (IsPl 4 s.data.toList i (tvs ss)) := isPl_texts (by rw [hrd, if_pos he]; simp)
        have hz : r.toList = [] := by rw [Lib.toList_data]; exact he
        have HLV : Hid (LiesV wr (some ⟨w.heap.size, 0, none⟩) (tvs ss)) := by
          have h := HV.out.lies
          have e : (List.range i).map (fun j => tv (ss.getD j [])) = tvs ss := by
            refine List.ext_getElem (by simp [tvs, HSL.out]) fun j h1 h2 => ?_
            simp [tvs] at h2
            simp [tvs, tv, List.getD, h2]
          rw [e] at h
          exact h
        clear hrd he
        go_wp2
        go_ret2
        exact ⟨Or.inl ⟨tvs ss, _, _, HI.out, rfl, HLV.out⟩, hb⟩
      · have HNo : Hid (Um.rdt i s.data.toList = none) := by show _ = _; rw [hrd, if_neg he]; rfl
        have hz : r.toList.isEmpty = false := by rw [Lib.toList_data, List.isEmpty_eq_false_iff]; exact he
        clear hrd he
        go_wp2
        go_region
        all_goals (try go_wp2)
        all_goals go_ret2
        all_goals exact ⟨Or.inr ⟨notPl_texts HNo.out, rfl⟩, hb.drew⟩
end Go.Proofs.YtmhkpnmifhfboaaGreatDoor
