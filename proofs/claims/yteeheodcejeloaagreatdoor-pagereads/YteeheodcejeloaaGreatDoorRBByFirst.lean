/-
  enc.byFirst: the unlike values, in the order in which they come first, and the place of each value among them.
  The reference's UnlikeOf: the unlike values, in the order in which they come, and of each value its place.
  The reference's ReadPlainOf: what rows of values it makes; of texts.
  The reference's ReadPlainOf of numbers.
-/
import Derived.Test.YteeheodcejeloaaGreatDoorRMapV
import Derived.Test.YteeheodcejeloaaGreatDoorRBPTexts
import Derived.Test.YteeheodcejeloaaGreatDoorRBWordsMath
import Derived.Deep.QuietTactic
import Derived.BigQuiet
import Derived.Test.YteeheodcejeloaaGreatDoorRBRd
import Derived.Test.YteeheodcejeloaaGreatDoorRBBase
namespace Go.Proofs.YteeheodcejeloaaGreatDoor
open Go.RowKit Go.Maps
/-- What byFirst's loop keeps: the map, the unlike values so far, the places so far. -/
structure BF (n : Nat) (w : World) (b : Value) (wr : World) (i : Nat) (us : List Vl) (ps : List Nat) : Prop where
  map : ∃ D : DataW Unit, wr.ownsMap Tryz.prog 41 (plainElem Tryz.prog 3) w.heap.size i D ∧ MInv D us
  row : wr.ownsRow (w.heap.size + 2) 41 3 b us.length (vcells us)
  done : ∀ j (h : j < ps.length), wr.cell? ⟨w.heap.size + 1, j, none⟩ = some (.int .i64 ps[j])
  any : ∀ j, j < n → ∃ v, wr.cell? ⟨w.heap.size + 1, j, none⟩ = some v
  froz : ∀ j, j < n → wr.frozen? ⟨w.heap.size + 1, j, none⟩ = false
  old : Below w.heap.size w wr
  sz : w.heap.size + 2 ≤ wr.heap.size
theorem BF.keep {n : Nat} {w : World} {b : Value} {wr w' : World} {i : Nat} {us : List Vl} {ps : List Nat} (h : BF n w b wr i us ps) (hb : Below wr.heap.size wr w') : BF n w b w' i us ps := by
  obtain ⟨D, hD, hI⟩ := h.map
  have hg : w.heap.size + 1 < wr.heap.size := h.sz
  have hl := hD.lt
  refine ⟨⟨D, ?_, hI⟩, ow_kept h.row hb, fun j hj => (hb.cell hg).trans (h.done j hj), fun j hj => (h.any j hj).imp fun _ hv => (hb.cell hg).trans hv, fun j hj => (hb.frozen hg).trans (h.froz j hj), h.old.trans (hb.mono h.old.size), Nat.le_trans h.sz hb.size⟩
  obtain ⟨es, cl, e1, e2⟩ := hD
  exact ⟨es, cl, (hb.block _ hl).trans e1, e2⟩
theorem ownRow_other {w w' : World} {base e size n g : Nat} {v : Value} {xs : List Value} (h : w.ownsRow base e size v n xs) (hg : w.grownBy w' (some g)) (hlt : g < base) : w'.ownsRow base e size v n xs := by
  refine ⟨h.1, ?_⟩
  rcases h.2 with hn | ⟨k, cap, cur, rfl, hbk, hk, rest⟩
  · exact .inl hn
  · exact .inr ⟨k, cap, cur, rfl, hbk, (hg.block k (Array.getElem?_eq_some_iff.1 hk).1 (fun e => by injection e with e; omega)).trans hk, rest⟩
/-- A new value: into the map. -/
theorem BF.store {n : Nat} {w : World} {b : Value} {wr w' : World} {i : Nat} {us : List Vl} {ps : List Nat} {D : DataW Unit} {v : Vl} (h : BF n w b wr i us ps) (hI : MInv D us) (hv : v.In) (hnew : v ∉ us)
    (hm : w'.ownsMap Tryz.prog 41 (plainElem Tryz.prog 3) w.heap.size (i + 1) (D.put (klit v) (.lit (.int .i64 us.length)))) (hg : wr.grownBy w' (some w.heap.size)) :
    (∃ D : DataW Unit, w'.ownsMap Tryz.prog 41 (plainElem Tryz.prog 3) w.heap.size (i + 1) D ∧ MInv D (us ++ [v])) ∧ w'.ownsRow (w.heap.size + 2) 41 3 b us.length (vcells us) ∧
    (∀ j (h : j < ps.length), w'.cell? ⟨w.heap.size + 1, j, none⟩ = some (.int .i64 ps[j])) ∧ (∀ j, j < n → ∃ v, w'.cell? ⟨w.heap.size + 1, j, none⟩ = some v) ∧ (∀ j, j < n → w'.frozen? ⟨w.heap.size + 1, j, none⟩ = false) ∧ Below w.heap.size w w' ∧ w.heap.size + 2 ≤ w'.heap.size := by
  have hk := hg.block (w.heap.size + 1) h.sz (fun e => by injection e with e; omega)
  refine ⟨⟨_, hm, hI.put v hv hnew⟩, ownRow_other h.row hg (by omega), fun j hj => (World.cell?_of_block hk).trans (h.done j hj), fun j hj => (h.any j hj).imp fun _ hv => (World.cell?_of_block hk).trans hv, fun j hj => (World.frozen?_of_block hk).trans (h.froz j hj), h.old.grown hg h.old.size (fun k hk => by injection hk with hk; omega), Nat.le_trans h.sz hg.size⟩
theorem vcells_snoc (us : List Vl) (v : Vl) : vcells (us ++ [v]) = vcells us ++ [.int .i64 v.k, .int .i64 v.n, .string v.s] := by simp [vcells]
/-- The place of a value is written. -/
theorem BF.put {n : Nat} {w : World} {b : Value} {wr : World} {i : Nat} {us : List Vl} {ps : List Nat} (h : BF n w b wr i us ps) (p : Nat) (hn : ps.length < n) : BF n w b (wr.setCell ⟨w.heap.size + 1, ps.length, none⟩ (.int .i64 p)) i us (ps ++ [p]) := by
  obtain ⟨D, hD, hI⟩ := h.map
  obtain ⟨v, hv⟩ := h.any ps.length hn
  have hother : ∀ j, j ≠ ps.length → (wr.setCell ⟨w.heap.size + 1, ps.length, none⟩ (.int .i64 p)).cell? ⟨w.heap.size + 1, j, none⟩ = wr.cell? ⟨w.heap.size + 1, j, none⟩ := fun j hj =>
    World.cell?_setCell_other _ _ _ _ (fun e => hj (by injection e with _ e; exact e.symm))
  refine ⟨⟨D, hD.setCell (by simp) _, hI⟩, ?_, fun j hj => ?_, fun j hj => ?_, fun j hj => by simpa using h.froz j hj, h.old.setCell (Nat.le_succ _) _, by simpa using h.sz⟩
  · refine ⟨h.row.1, ?_⟩
    rcases h.row.2 with hn | ⟨k, cap, cur, rfl, hbk, hk, rest⟩
    · exact .inl hn
    · exact .inr ⟨k, cap, cur, rfl, hbk, (Below.heap_setCell _ _ _ _ (by simp; omega)).trans hk, rest⟩
  · by_cases e : j = ps.length
    · subst e
      rw [World.cell?_setCell_same _ _ _ hv, List.getElem_concat_length rfl]
    · rw [List.length_append] at hj
      simp at hj
      rw [hother j e, List.getElem_append_left (by omega)]
      exact h.done j (by omega)
  · by_cases e : j = ps.length
    · subst e; exact ⟨_, World.cell?_setCell_same _ _ _ hv⟩
    · rw [hother j e]; exact h.any j hj
/-- A new value: behind the others. -/
theorem BF.push {n : Nat} {w : World} {b v' : Value} {w1 w2 : World} {o : Obj} {i : Nat} {us : List Vl} {ps : List Nat} {v : Vl}
    (h : (∃ D : DataW Unit, w1.ownsMap Tryz.prog 41 (plainElem Tryz.prog 3) w.heap.size (i + 1) D ∧ MInv D (us ++ [v])) ∧ w1.ownsRow (w.heap.size + 2) 41 3 b us.length (vcells us) ∧
    (∀ j (h : j < ps.length), w1.cell? ⟨w.heap.size + 1, j, none⟩ = some (.int .i64 ps[j])) ∧ (∀ j, j < n → ∃ v, w1.cell? ⟨w.heap.size + 1, j, none⟩ = some v) ∧ (∀ j, j < n → w1.frozen? ⟨w.heap.size + 1, j, none⟩ = false) ∧ Below w.heap.size w w1 ∧ w.heap.size + 2 ≤ w1.heap.size)
    (hown : w2.ownsRow (w.heap.size + 2) 41 3 v' (us.length + 1) (vcells us ++ [.int .i64 v.k, .int .i64 v.n, .string v.s])) (hg : (w1.alloc o).grownBy w2 b.ownBlock) : BF n w v' w2 (i + 1) (us ++ [v]) ps := by
  obtain ⟨⟨D, hD, hI⟩, hrow, hdone, hany, hfz, hold, hsz⟩ := h
  have hb : Below (w.heap.size + 2) w1 w2 := ((Below.refl (w.heap.size + 2) w1).alloc hsz o).grown hg (by simp; omega) (fun k hk => (hrow.lt k hk).1)
  have h1 : w.heap.size + 1 < w.heap.size + 2 := by omega
  have h0 : w.heap.size < w.heap.size + 2 := by omega
  refine ⟨⟨D, ?_, hI⟩, ?_, fun j hj => (hb.cell h1).trans (hdone j hj), fun j hj => (hany j hj).imp fun _ hv => (hb.cell h1).trans hv, fun j hj => (hb.frozen h1).trans (hfz j hj), hold.trans (hb.mono (by omega)), Nat.le_trans hsz hb.size⟩
  · obtain ⟨es, cl, e1, e2⟩ := hD
    exact ⟨es, cl, (hb.block _ h0).trans e1, e2⟩
  · rw [vcells_snoc, List.length_append]; exact hown
theorem three_cells {w : World} {x y z : Value} {T : TypeId} : ∀ j u, [x, y, z][j]? = some u → (w.alloc (.cells #[x, y, z] T)).cell? ((⟨w.heap.size, 0, none⟩ : Addr).add j) = some u := fun j u h => by
  rw [addr_up, Nat.zero_add]
  refine cell_alloc_at ?_ rfl
  simpa using h
theorem BF.mono {n : Nat} {w : World} {b : Value} {wr : World} {i j : Nat} {us : List Vl} {ps : List Nat} (h : BF n w b wr i us ps) (hij : i ≤ j) : BF n w b wr j us ps := by
  obtain ⟨D, hD, hI⟩ := h.map
  exact ⟨⟨D, hD.mono hij, hI⟩, h.row, h.done, h.any, h.froz, h.old, h.sz⟩
/-- What byFirst answers. -/
def RetBF (vs : List Vl) (e : Ending) (w' : World) : Prop :=
  ∃ us ps a c a' c', Uq vs us ps ∧ e = .returned (.tuple #[.slice a us.length c, .slice a' ps.length c']) ∧ ps.length ≤ c' ∧ LiesV w' a us ∧ ∀ j (h : j < ps.length), ∃ b o, a' = some ⟨b, o, none⟩ ∧ w'.cell? ⟨b, o + j, none⟩ = some (.int .i64 ps[j])
set_option maxHeartbeats 3200000 in
set_option maxRecDepth 100000 in
theorem byFirst_any (a : Option Addr) (vs : List Vl) (c : Nat) (w : World) (hn : vs.length ≤ 20000) (hl : LiesV w a vs) (hx : ∀ v ∈ vs, v.In) :
    Calls Tryz.prog 152 #[.slice a vs.length c] w fun e w' => RetBF vs e w' ∧ Below w.heap.size w w' := by
  obtain ⟨i0, hi, hz0, hz1, hz2⟩ := info_parts Tryz.info3
  obtain ⟨iv, hvi, hv0, hv1, hv2⟩ := info_parts Tryz.infoV
  obtain ⟨M, hM⟩ : ∃ M, M = madeCells (Value.int .i64 0).cells (((vs.length : Nat) : Int).toNat * i0.size) := ⟨_, rfl⟩
  have hMs : M.size = vs.length := by rw [hM, size_madeCells, hz1]; simp
  have hmk : ∀ W : World, (Instr.makeSlice 22 (.int .i64 (vs.length : Int)) (.int .i64 (vs.length : Int))).run Tryz.prog W = .ok (.slice (some ⟨W.heap.size, 0, none⟩) vs.length vs.length) (W.alloc (.cells M 3)) := fun W => by
    have h := run_make (P := Tryz.prog) W 22 3 i0 (.int .i64 0) Tryz.underlying22 hi hz0 .i64 .i64 (vs.length : Int) (vs.length : Int) (by omega) (by omega) (by rw [hz2]; omega) (by omega)
    rw [← hM] at h
    simpa using h
  have hmm := @run_makeMap Tryz.prog
  have HL : Hid (LiesV w a vs) := hl
  have HX : Hid (∀ v ∈ vs, v.In) := hx
  have HS : Hid (BF vs.length w (.slice none 0 0) ((w.alloc (.map #[] 0)).alloc (.cells M 3)) 0 [] []) := by
    have e : w.heap.size + 1 = (w.alloc (.map #[] 0)).heap.size := by simp
    refine ⟨⟨.map [], (World.ownsMap_made w _ _ _).alloc _, MInv.start⟩, World.ownsRow_nil _ _ _ _, fun j hj => absurd hj (by simp), fun j hj => ?_, fun j hj => ?_, ((Below.refl _ _).alloc (Nat.le_refl _) _).alloc (by simp) _, by simp⟩
    · rw [e, cell_of_row _ _ j M 3 (0, 0) (heap_alloc_new _ _)]
      exact ⟨_, Array.getElem?_eq_getElem (by omega)⟩
    · rw [e]; exact frozen_of_row _ _ j M 3 (heap_alloc_new _ _)
  clear hl hx hM hMs
  go_enter Tryz.func152, Tryz.ntmps152
  go_wp2
  clear hmk hmm
  go_loopw [2, 15] (fun b x wr => ∃ (i : Nat) (us : List Vl) (ps : List Nat), i ≤ vs.length ∧ x = .int .i64 i ∧ Hid (Uq (vs.take i) us ps) ∧ Hid (BF vs.length w b wr i us ps)) (fun _ x _ => vs.length - (intOf x).toNat)
  case atStart => exact ⟨0, [], [], Nat.zero_le _, rfl, Uq.nil, HS⟩
  case round =>
    clear HS
    obtain ⟨i, us, ps, hik, rfl, HU, HB⟩ := hrel
    have hlen := HU.out.len
    rw [List.length_take, Nat.min_eq_left hik] at hlen
    obtain ⟨hpl, hul⟩ := hlen
    by_cases hlt : i < vs.length
    · obtain ⟨b, o, rfl, hc0, hc1, hc2⟩ := (HL.out.keep HB.out.old) i hlt
      have hvin := HX.out _ (List.getElem_mem hlt)
      have HT : Hid (vs.take (i + 1) = vs.take i ++ [vs[i]]) := List.take_succ_eq_append_getElem hlt
      generalize hv : vs[i] = v at hc0 hc1 hc2 hvin HT
      clear hv
      have hkey := klit_key v hvin
      have HVI : Hid v.In := hvin
      clear hvin
      have HB1 : Hid (BF vs.length w _ (wr.alloc (.cells #[.int .i64 v.k, .int .i64 v.n, .string v.s] 41)) i us ps) := HB.out.keep ((Below.refl _ _).alloc (Nat.le_refl _) _)
      obtain ⟨D, hD, hI⟩ := HB1.out.map
      have HI : Hid (MInv D us) := hI
      clear hI
      by_cases hm : v ∈ us
      · obtain ⟨p, hp, hpe⟩ := List.getElem_of_mem hm
        have hhas : has D (klit v) = true := by rw [← hpe]; exact (HI.out.old p hp).2
        have HAt : Hid (D.atKey (klit v) (.lit (.int .i64 0)) = .lit (.int .i64 p)) := by show _ = _; rw [← hpe]; exact (HI.out.old p hp).1
        have HP : Hid (us[p]? = some v) := by show _ = _; rw [← hpe]; exact List.getElem?_eq_getElem hp
        obtain ⟨y, hy⟩ := HB1.out.any i hlt
        have hfz := HB1.out.froz i hlt
        go_wp2_with (at_lookup; refine wpList_lookup_own_ok_int _ rfl _ _ 233 rfl 41 3 .i64 Tryz.lawV Tryz.underlying233 Tryz.underlying3 (Tryz.zeroI _) w.heap.size i D rfl hD _ _ rfl hkey ?_; intro cc hat hwc; rw [hhas]; obtain rfl : cc = p := by (have := HAt.out.symm.trans hat; injection this with this; injection this with _ this; exact this.symm))
        go_roundw
        case rel =>
          refine ⟨i + 1, us, ps ++ [p], by omega, by go_num, ?_, ?_⟩
          · show Uq _ _ _
            rw [HT.out]
            exact Uq.old HU.out HP.out
          · have h := HB1.out.put p (by omega)
            rw [hpl] at h
            exact h.mono (Nat.le_succ _)
        case measure => simp [intOf]; omega
      · have hhas : has D (klit v) = false := HI.out.new v HVI.out hm
        have HNM : Hid (v ∉ us) := hm
        clear hm
        obtain ⟨a2, c2, rfl, _⟩ := liesV_own HB1.out.row
        have hbx : (wr.alloc (.cells #[.int .i64 v.k, .int .i64 v.n, .string v.s] 41)).heap[wr.heap.size]? = some (.cells #[.int .i64 v.k, .int .i64 v.n, .string v.s] 41 (0, 0)) := heap_alloc_new wr _
        have hne : some wr.heap.size ≠ some w.heap.size := fun e => by
          injection e with e
          have := HB.out.sz
          omega
        go_wp2_with (first
          | (at_lookup; refine wpList_lookup_own_ok_int _ rfl _ _ 233 rfl 41 3 .i64 Tryz.lawV Tryz.underlying233 Tryz.underlying3 (Tryz.zeroI _) w.heap.size i D rfl hD _ _ rfl hkey ?_; intro cc hat hwc; rw [hhas])
          | (at_mapUpdate; refine wpList_mapUpdate_own _ rfl _ _ _ 233 rfl 41 3 Tryz.lawV Tryz.underlying233 _ w.heap.size i D rfl hD (by unfold maxLen; omega) _ _ _ rfl rfl hkey (.lit (.int .i64 us.length)) [] (plainElem_int Tryz.underlying3 (WalkArith.wf_i64 (by omega))) ?_; intro w1 hown1 hgrow1; clear hc0 hc1 hc2; obtain ⟨q0, q1, q2⟩ := row_three ((hgrow1.block wr.heap.size (by simp) hne).trans hbx); have HST : Hid _ := HB1.out.store HI.out HVI.out HNM.out hown1 hgrow1)
          | (at_builtin; refine wpList_append_own _ rfl _ _ 27 rfl (w.heap.size + 2) 41 iv (.agg #[.int .i64 0, .int .i64 0, .string ⟨#[]⟩]) 3 32 Tryz.underlying27 hvi hv0 hv1 hv2 rfl (by decide) _ us.length (vcells us) rfl (HST.out.2.1.alloc _) ⟨w1.heap.size, 0, none⟩ 1 1 [.int .i64 v.k, .int .i64 v.n, .string v.s] rfl rfl three_cells (by intro u hu; simp at hu; rcases hu with rfl | rfl | rfl <;> rfl) (by unfold maxLen; omega) (by omega) (by have := HST.out.2.2.2.2.2.2; simp; omega) ?_; intro v' w2 hown' hgrow _; have HB2 : Hid _ := BF.push HST.out hown' hgrow; obtain ⟨y, hy⟩ := HB2.out.any i hlt; have hfz := HB2.out.froz i hlt))
        go_roundw
        case rel =>
          refine ⟨i + 1, us ++ [v], ps ++ [us.length], by omega, by go_num, ?_, ?_⟩
          · show Uq _ _ _
            rw [HT.out]
            exact Uq.new HU.out HNM.out
          · have h := HB2.out.put us.length (by omega)
            rw [hpl] at h
            exact h
        case measure => simp [intOf]; omega
    · obtain rfl : i = vs.length := by omega
      have hu := HU.out
      rw [List.take_length] at hu
      have HU2 : Hid (Uq vs us ps) := hu
      obtain ⟨a2, c2, rfl, hl2⟩ := liesV_own HB.out.row
      have HD : Hid (∀ j (h : j < ps.length), ∃ b o, some (⟨w.heap.size + 1, 0, none⟩ : Addr) = some ⟨b, o, none⟩ ∧ wr.cell? ⟨b, o + j, none⟩ = some (.int .i64 ps[j])) := fun j hj => ⟨_, _, rfl, by rw [Nat.zero_add]; exact HB.out.done j hj⟩
      have HLL : Hid (LiesV wr a2 us) := hl2
      clear hu hl2
      go_wp2
      go_ret2
      exact ⟨⟨us, ps, a2, c2, _, vs.length, HU2.out, by rw [hpl]; rfl, by omega, HLL.out, HD.out⟩, HB.out.old⟩
end Go.Proofs.YteeheodcejeloaaGreatDoor

namespace Go.Proofs.YteeheodcejeloaaGreatDoor
open Go.RowKit
theorem own_two {w w' : World} {b1 b2 e1 e2 s1 s2 n m : Nat} {v u : Value} {xs ys : List Value} (h1 : w.ownsRow b1 e1 s1 v n xs) (h2 : w.ownsRow b2 e2 s2 u m ys) (hne : e1 ≠ e2) (hg : w.grownBy w' v.ownBlock) : w'.ownsRow b2 e2 s2 u m ys := by
  refine ⟨h2.1, ?_⟩
  rcases h2.2 with hn | ⟨k, cap, cur, rfl, hbk, hk, rest⟩
  · exact .inl hn
  · refine .inr ⟨k, cap, cur, rfl, hbk, (hg.block k (Array.getElem?_eq_some_iff.1 hk).1 (fun e => ?_)).trans hk, rest⟩
    rcases h1.2 with ⟨rfl, _⟩ | ⟨g1, _, cur1, rfl, _, hg1, _⟩
    · simp [Value.ownBlock] at e
    · simp [Value.ownBlock] at e
      subst e
      rw [hg1] at hk
      injection hk with hk
      injection hk with _ hk _
      exact hne hk
theorem dN {B : Nat} {a w : World} (h : Below B a w) (n : Nat) : Below B a (w.drewN n) := h.trans ⟨rfl, rfl, rfl, Nat.le_refl _, fun _ _ => rfl⟩
/-- Places, as cells. -/
def pcells (ps : List Nat) : List Value := ps.map fun p : Nat => .int .i64 (p : Int)
theorem pcells_snoc (ps : List Nat) (p : Nat) : pcells (ps ++ [p]) = pcells ps ++ [.int .i64 (p : Int)] := by simp [pcells]
theorem lies_row {w : World} {base e n : Nat} {a : Option Addr} {m c : Nat} {us : List Vl} (h : w.ownsRow base e 3 (.slice a m c) n (vcells us)) : LiesV w a us := by
  obtain ⟨a', c', e', hl⟩ := liesV_own h
  injection e' with e1 _ _
  subst e1
  exact hl
/-- What UnlikeOf's loop keeps. -/
structure UL (w : World) (o p : Value) (wr : World) (us : List Vl) (ps : List Nat) : Prop where
  row : wr.ownsRow w.heap.size 41 3 o us.length (vcells us)
  pl : wr.ownsRow w.heap.size 3 1 p ps.length (pcells ps)
  old : Below w.heap.size w wr
theorem UL.drewN {w : World} {o p : Value} {wr : World} {us : List Vl} {ps : List Nat} (h : UL w o p wr us ps) (n : Nat) : UL w o p (wr.drewN n) us ps := ⟨h.row, h.pl, dN h.old n⟩
/-- A value is put behind the unlike ones. -/
theorem UL.push {w : World} {o p o' : Value} {wr w1 : World} {ob : Obj} {us : List Vl} {ps : List Nat} {v : Vl} (h : UL w o p wr us ps) (hown : w1.ownsRow w.heap.size 41 3 o' (us.length + 1) (vcells us ++ [.int .i64 v.k, .int .i64 v.n, .string v.s])) (hg : (wr.alloc ob).grownBy w1 o.ownBlock) : UL w o' p w1 (us ++ [v]) ps :=
  ⟨by rw [vcells_snoc, List.length_append]; exact hown, own_two (h.row.alloc ob) (h.pl.alloc ob) (by decide) hg, (h.old.alloc h.old.size ob).grown hg (by have := h.old.size; simp; omega) (fun k hk => (h.row.lt k hk).1)⟩
/-- A place is put behind the others. -/
theorem UL.place {w : World} {o p p' : Value} {wr w1 : World} {ob : Obj} {us : List Vl} {ps : List Nat} {q : Nat} (h : UL w o p wr us ps) (hown : w1.ownsRow w.heap.size 3 1 p' (ps.length + 1) (pcells ps ++ [.int .i64 (q : Int)])) (hg : (wr.alloc ob).grownBy w1 p.ownBlock) : UL w o p' w1 us (ps ++ [q]) :=
  ⟨own_two (h.pl.alloc ob) (h.row.alloc ob) (by decide) hg, by rw [pcells_snoc, List.length_append]; exact hown, (h.old.alloc h.old.size ob).grown hg (by have := h.old.size; simp; omega) (fun k hk => (h.pl.lt k hk).1)⟩
def RetUL (vs : List Vl) (e : Ending) (w' : World) : Prop :=
  ∃ us ps a c a' c', Uq vs us ps ∧ e = .returned (.tuple #[.slice a us.length c, .slice a' ps.length c']) ∧ LiesV w' a us ∧ Lies w' a' (pcells ps)
set_option maxHeartbeats 3200000 in
set_option maxRecDepth 100000 in
theorem unlikeOf_any (a : Option Addr) (vs : List Vl) (c : Nat) (w : World) (hn : vs.length ≤ 20000) (hl : LiesV w a vs) :
    Calls Tryz.prog 89 #[.slice a vs.length c] w fun e w' => RetUL vs e w' ∧ Below w.heap.size w w' := by
  obtain ⟨i0, hi, hz0, hz1, hz2⟩ := info_parts Tryz.info3
  obtain ⟨iv, hvi, hv0, hv1, hv2⟩ := info_parts Tryz.infoV
  have HL : Hid (LiesV w a vs) := hl
  clear hl
  go_enter Tryz.func89, Tryz.ntmps89
  go_wp2
  go_loopw [4, 5, 6] (fun o p x wr => ∃ (i : Nat) (us : List Vl) (ps : List Nat), i ≤ vs.length ∧ x = .int .i64 i ∧ Hid (Uq (vs.take i) us ps) ∧ Hid (UL w o p wr us ps)) (fun _ _ x _ => vs.length - (intOf x).toNat)
  case atStart => exact ⟨0, [], [], Nat.zero_le _, rfl, Uq.nil, ⟨World.ownsRow_nil _ _ _ _, World.ownsRow_nil _ _ _ _, Below.refl _ _⟩⟩
  case round =>
    obtain ⟨i, us, ps, hik, rfl, HU, HB⟩ := hrel
    have hlen := HU.out.len
    rw [List.length_take, Nat.min_eq_left hik] at hlen
    obtain ⟨hpl, hul⟩ := hlen
    by_cases hlt : i < vs.length
    · obtain ⟨b, o, rfl, hc0, hc1, hc2⟩ := (HL.out.keep HB.out.old) i hlt
      have HC : Hid (∀ W, Below w.heap.size w W → W.cell? ⟨b, o + i * 3, none⟩ = some (.int .i64 vs[i].k) ∧ W.cell? ⟨b, o + i * 3 + 1, none⟩ = some (.int .i64 vs[i].n) ∧ W.cell? ⟨b, o + i * 3 + 2, none⟩ = some (.string vs[i].s)) := fun W hW => by
        obtain ⟨b', o', e, h⟩ := (HL.out.keep hW) i hlt
        have e := Option.some.inj e
        simp only [Addr.mk.injEq, and_true] at e
        rw [e.1, e.2]
        exact h
      have HT : Hid (vs.take (i + 1) = vs.take i ++ [vs[i]]) := List.take_succ_eq_append_getElem hlt
      generalize vs[i] = v at *
      obtain ⟨a2, c2, rfl, hl2⟩ := liesV_own HB.out.row
      clear hl2
      go_wp2
      clear hc0 hc1 hc2
      go_loopw [7] (fun y wr => ∃ k : Nat, k ≤ us.length ∧ y = .int .i64 k ∧ Hid (∀ j (h : j < us.length), j < k → us[j] ≠ v) ∧ Hid (UL w (.slice a2 us.length c2) _ wr us ps)) (fun y _ => us.length - (intOf y).toNat)
      case atStart => exact ⟨0, Nat.zero_le _, rfl, fun j _ h => absurd h (by omega), HB⟩
      case round =>
        clear HB
        obtain ⟨k, hk, rfl, HN, HB⟩ := hrel
        obtain ⟨d0, d1, d2⟩ := HC.out _ HB.out.old
        by_cases hkl : k < us.length
        · obtain ⟨b2, o2, rfl, e0, e1, e2⟩ := lies_row HB.out.row k hkl
          by_cases hv : us[k] = v
          · have HP : Hid (us[k]? = some v) := by show _ = _; rw [← hv]; exact List.getElem?_eq_getElem hkl
            rw [hv] at e0 e1 e2
            clear hv
            go_wp2
            go_quiet (fail)
            have HB2 : Hid _ := HB.out.drewN nq
            have hne : ((k : Int) == (us.length : Int)) = false := by simp; omega
            have hown := HB2.out.pl
            go_wp2_with (at_builtin; refine wpList_append_own _ rfl _ _ 22 rfl w.heap.size 3 i0 (.int .i64 0) 1 8 Tryz.underlying22 hi hz0 hz1 hz2 rfl (by decide) _ ps.length (pcells ps) rfl (hown.alloc _) ⟨_, 0, none⟩ 1 1 [.int .i64 (k : Int)] rfl rfl (cell_one_new _ _ _) (by intro u hu; simp at hu; subst hu; rfl) (by unfold maxLen; omega) (by omega) (by have := HB2.out.old.size; simp at this ⊢; omega) ?_; intro v' w1 hown' hgrow _; have HB3 : Hid _ := HB2.out.place hown' hgrow)
            go_roundw
            case rel =>
              refine ⟨i + 1, us, ps ++ [k], by omega, by go_num, ?_, HB3⟩
              show Uq _ _ _
              rw [HT.out]
              exact Uq.old HU.out HP.out
            case measure => simp [intOf]; omega
          · have HNV : Hid (us[k] ≠ v) := hv
            generalize hu : us[k] = u at e0 e1 e2 hv
            clear hu
            have hcs : (u.k ≠ v.k) ∨ (u.k = v.k ∧ u.n ≠ v.n) ∨ (u.k = v.k ∧ u.n = v.n ∧ u.s.toList ≠ v.s.toList) := by
              by_cases h1 : u.k = v.k
              · by_cases h2 : u.n = v.n
                · exact Or.inr (Or.inr ⟨h1, h2, fun h => hv (vl_ext h1 h2 (str_ext h))⟩)
                · exact Or.inr (Or.inl ⟨h1, h2⟩)
              · exact Or.inl h1
            clear hv
            rcases hcs with h1 | ⟨h1, h2⟩ | ⟨h1, h2, h3⟩
            all_goals
              go_wp2
              go_quiet (fail)
              go_wp2
              go_roundw
              case rel => exact ⟨k + 1, by omega, by go_num, fun j h hj => if e : j = k then (by subst e; exact HNV.out) else HN.out j h (by omega), HB.out.drewN _⟩
              case measure => simp [intOf]; omega
        · obtain rfl : k = us.length := by omega
          have HNM : Hid (v ∉ us) := fun hm => by
            obtain ⟨j, hj, e⟩ := List.getElem_of_mem hm
            exact HN.out j hj hj e
          go_wp2
          go_quiet (fail)
          have HB2 : Hid _ := HB.out.drewN nq
          go_wp2_with (first
            | (at_builtin; refine wpList_append_own _ rfl _ _ 27 rfl w.heap.size 41 iv (.agg #[.int .i64 0, .int .i64 0, .string ⟨#[]⟩]) 3 32 Tryz.underlying27 hvi hv0 hv1 hv2 rfl (by decide) _ us.length (vcells us) rfl (HB2.out.row.alloc _) ⟨_, 0, none⟩ 1 1 [.int .i64 v.k, .int .i64 v.n, .string v.s] rfl rfl three_cells (by intro u hu; simp at hu; rcases hu with rfl | rfl | rfl <;> rfl) (by unfold maxLen; omega) (by omega) (by have := HB2.out.old.size; simp at this ⊢; omega) ?_; intro v1 w1 hown1 hgrow1 _; have HB3 : Hid _ := HB2.out.push hown1 hgrow1)
            | (at_builtin; refine wpList_append_own _ rfl _ _ 22 rfl w.heap.size 3 i0 (.int .i64 0) 1 8 Tryz.underlying22 hi hz0 hz1 hz2 rfl (by decide) _ ps.length (pcells ps) rfl (HB3.out.pl.alloc _) ⟨_, 0, none⟩ 1 1 [.int .i64 (us.length : Int)] rfl rfl (cell_one_new _ _ _) (by intro u hu; simp at hu; subst hu; rfl) (by unfold maxLen; omega) (by omega) (by have := HB3.out.old.size; simp at this ⊢; omega) ?_; intro v' w2 hown' hgrow _; have HB4 : Hid _ := HB3.out.place hown' hgrow))
          go_roundw
          case rel =>
            refine ⟨i + 1, us ++ [v], ps ++ [us.length], by omega, by go_num, ?_, HB4⟩
            show Uq _ _ _
            rw [HT.out]
            exact Uq.new HU.out HNM.out
          case measure => simp [intOf]; omega
    · obtain rfl : i = vs.length := by omega
      have hu := HU.out
      rw [List.take_length] at hu
      have HU2 : Hid (Uq vs us ps) := hu
      obtain ⟨a2, c2, rfl, hl2⟩ := liesV_own HB.out.row
      obtain ⟨a3, c3, rfl, hl3⟩ := lies_own HB.out.pl
      have e : (pcells ps).length = ps.length := by simp [pcells]
      rw [e]
      have HLL : Hid (LiesV wr a2 us) := hl2
      have HLP : Hid (Lies wr a3 (pcells ps)) := hl3
      clear hu hl2 hl3 e
      go_wp2
      go_ret2
      exact ⟨⟨us, ps, a2, c2, a3, c3, HU2.out, rfl, HLL.out, HLP.out⟩, HB.out.old⟩
end Go.Proofs.YteeheodcejeloaaGreatDoor

namespace Go.Proofs.YteeheodcejeloaaGreatDoor
open Go.RowKit
/-- What a reader of the reference answers. -/
def RetOk (P : List Vl → Prop) (e : Ending) (w' : World) : Prop :=
  (∃ vs a c, P vs ∧ e = .returned (.tuple #[.slice a vs.length c, .bool true]) ∧ LiesV w' a vs) ∨ ((¬ ∃ vs, P vs) ∧ ∃ a n c, e = .returned (.tuple #[.slice a n c, .bool false]))
/-- The same, in new memory. -/
def RetOkC (N : Nat) (P : List Vl → Prop) (e : Ending) (w' : World) : Prop :=
  (∃ vs a c, P vs ∧ e = .returned (.tuple #[.slice a vs.length c, .bool true]) ∧ LiesV w' a vs ∧ Fsh N a) ∨ ((¬ ∃ vs, P vs) ∧ ∃ a n c, e = .returned (.tuple #[.slice a n c, .bool false]))
theorem RetOkC.old {N : Nat} {P : List Vl → Prop} {e : Ending} {w' : World} (h : RetOkC N P e w') : RetOk P e w' := by
  rcases h with ⟨vs, a, c, h1, h2, h3, _⟩ | h
  · exact .inl ⟨vs, a, c, h1, h2, h3⟩
  · exact .inr h
/-- A row of values of the call's own. -/
structure VOw (w : World) (o : Value) (wr : World) (us : List Vl) : Prop where
  row : wr.ownsRow w.heap.size 41 3 o us.length (vcells us)
  old : Below w.heap.size w wr
theorem VOw.start (w : World) : VOw w (.slice none 0 0) w [] := ⟨World.ownsRow_nil _ _ _ _, Below.refl _ _⟩
theorem VOw.push {w : World} {o o' : Value} {wr w1 : World} {ob : Obj} {us : List Vl} {v : Vl} (h : VOw w o wr us) (hown : w1.ownsRow w.heap.size 41 3 o' (us.length + 1) (vcells us ++ [.int .i64 v.k, .int .i64 v.n, .string v.s])) (hg : (wr.alloc ob).grownBy w1 o.ownBlock) : VOw w o' w1 (us ++ [v]) :=
  ⟨by rw [vcells_snoc, List.length_append]; exact hown, (h.old.alloc h.old.size ob).grown hg (by have := h.old.size; simp; omega) (fun k hk => (h.row.lt k hk).1)⟩
theorem VOw.keep {w : World} {o : Value} {wr w1 : World} {us : List Vl} (h : VOw w o wr us) (hb : Below wr.heap.size wr w1) : VOw w o w1 us :=
  ⟨ow_kept h.row hb, h.old.trans (hb.mono h.old.size)⟩
theorem tvs_snoc (ss : List (List UInt8)) (t : List UInt8) : tvs (ss ++ [t]) = tvs ss ++ [⟨4, 0, ⟨t.toArray⟩⟩] := by simp [tvs]
theorem tvs_len (ss : List (List UInt8)) : (tvs ss).length = ss.length := by simp [tvs]
set_option maxRecDepth 100000 in
set_option maxHeartbeats 1600000 in
theorem plOf_texts (s : ByteArray) (n : Nat) (w : World) (hs : s.size ≤ 3000) (hn : n ≤ 20000) :
    Calls Tryz.prog 50 #[.int .i64 4, .string s, .int .i64 n] w fun e w' => RetOkC w.heap.size (IsPl 4 s.data.toList n) e w' ∧ Below w.heap.size w w' := by
  obtain ⟨iv, hvi, hv0, hv1, hv2⟩ := info_parts Tryz.infoV
  go_enter Tryz.func50, Tryz.ntmps50
  go_wp2
  go_loopw [1, 8, 12] (fun y o x wr => ∃ (i : Nat) (r : ByteArray) (ss : List (List UInt8)), i ≤ n ∧ x = .int .i64 i ∧ y = .string r ∧ r.size ≤ s.size ∧ Hid (ss.length = i) ∧ Hid (Um.rdt n s.data.toList = (Um.rdt (n - i) r.data.toList).map fun q => ss ++ q) ∧ Hid (VOw w o wr (tvs ss))) (fun _ _ x _ => n - (intOf x).toNat)
  case atStart => exact ⟨0, s, [], Nat.zero_le _, rfl, rfl, Nat.le_refl _, rfl, by show _ = _; simp, VOw.start w⟩
  case round =>
    obtain ⟨i, r, ss, hik, rfl, rfl, hrs, HSL, HRD, HV⟩ := hrel
    have hb := HV.out.old
    by_cases hlt : i < n
    · generalize hp : Um.rdv r.data.toList 0 0 = p
      obtain ⟨m, k⟩ := p
      have HP : Hid (Um.rdv r.data.toList 0 0 = (m, k)) := hp
      clear hp
      have hroom := Um.rdv_room r.data.toList 0 0 (by simp)
      rw [HP.out] at hroom
      have hk10 : k ≤ 10 := hroom.2.1
      have HSt : Hid (Um.rdt (n - i) r.data.toList = if 0 < k ∧ m ≤ 100 ∧ k + m ≤ r.size then (Um.rdt (n - (i + 1)) (r.data.toList.drop (k + m))).map (fun q => (r.data.toList.drop k).take m :: q) else none) := by
        show _ = _
        rw [show n - i = (n - (i + 1)) + 1 by omega, Um.rdt, HP.out]
        rfl
      clear hroom
      by_cases hf : 0 < k ∧ k + m ≤ r.size
      · obtain ⟨hk, hf⟩ := hf
        have HX : Hid ((r.extract k (k + m)).data.toList = (r.data.toList.drop k).take m) := ext_take r k m
        have hxt : (r.extract k (k + m)).size = m := by rw [ByteArray.size_extract]; omega
        have HX2 : Hid ((⟨((r.data.toList.drop k).take m).toArray⟩ : ByteArray) = r.extract k (k + m)) := by show _ = _; rw [← HX.out, ba_mk]
        go_wp2_with fail
        refine (readLong_hit r wr m k (by omega) HP.out hk hf).mono ?_
        rintro e w1 ⟨rfl, hw⟩
        obtain rfl := hw.symm
        have hk0 : (((k : Int) + (m : Int)) == 0) = false := by simp; omega
        by_cases hm : m ≤ 100
        · have HVS : Hid (tvs (ss ++ [(r.data.toList.drop k).take m]) = tvs ss ++ [⟨4, 0, r.extract k (k + m)⟩]) := by show _ = _; rw [tvs_snoc, HX2.out]
          generalize r.extract k (k + m) = x at *
          obtain ⟨q, HQ⟩ : ∃ q, Hid (q = k + m) := ⟨_, rfl⟩
          have hqr : q ≤ r.size := by rw [HQ.out]; exact hf
          have hrx : (r.extract q r.size).size ≤ s.size := by rw [ByteArray.size_extract]; omega
          have HRX : Hid ((r.extract q r.size).data.toList = r.data.toList.drop (k + m)) := by show _ = _; rw [← HQ.out]; exact drop_ext r q
          have hci : (k : Int) + (m : Int) = (q : Int) := by rw [HQ.out]; omega
          have hq0 : ((q : Int) == 0) = false := by simp; have := HQ.out; omega
          have htl : (tvs ss).length = i := by rw [tvs_len, HSL.out]
          have HTL : Hid ((tvs ss).length = i) := htl
          clear htl
          go_wp2_with (at_builtin; refine wpList_append_own _ rfl _ _ 27 rfl w.heap.size 41 iv (.agg #[.int .i64 0, .int .i64 0, .string ⟨#[]⟩]) 3 32 Tryz.underlying27 hvi hv0 hv1 hv2 rfl (by decide) _ (tvs ss).length (vcells (tvs ss)) rfl (HV.out.row.alloc _) ⟨_, 0, none⟩ 1 1 [.int .i64 4, .int .i64 0, .string x] rfl rfl three_cells (by intro u hu; simp at hu; rcases hu with rfl | rfl | rfl <;> rfl) (by have := HTL.out; unfold maxLen; omega) (by have := HTL.out; omega) (by have := HV.out.old.size; simp at this ⊢; omega) ?_; intro v1 w1 hown1 hgrow1 _; have HV2 : Hid (VOw w v1 w1 (tvs ss ++ [⟨4, 0, x⟩])) := HV.out.push (v := ⟨4, 0, x⟩) hown1 hgrow1)
          go_roundw
          case rel =>
            refine ⟨i + 1, r.extract q r.size, ss ++ [(r.data.toList.drop k).take m], by omega, by go_num, rfl, hrx, by show _ = _; rw [List.length_append, HSL.out]; rfl, ?_, by rw [HVS.out]; exact HV2⟩
            show _ = _
            rw [HRD.out, HSt.out, if_pos ⟨hk, hm, hf⟩, HRX.out, Option.map_map]
            congr 1
            funext q
            simp
          case measure => simp [intOf]; omega
        · have HNo : Hid (Um.rdt n s.data.toList = none) := by
            show _ = _
            rw [HRD.out, HSt.out, if_neg (by omega)]; rfl
          have hm2 : 100 < m := by omega
          generalize r.extract k (k + m) = x at *
          go_wp2
          go_ret2
          exact ⟨Or.inr ⟨notPl_texts HNo.out, _, _, _, rfl⟩, hb⟩
      · have HNo : Hid (Um.rdt n s.data.toList = none) := by
          show _ = _
          rw [HRD.out, HSt.out, if_neg (by omega)]; rfl
        go_wp2_with fail
        have hf2 : k = 0 ∨ r.size < k + m := by omega
        refine (readLong_miss r wr m k (by omega) HP.out hf2).mono ?_
        rintro e w1 ⟨rfl, hw⟩
        obtain rfl := hw.symm
        go_wp2
        go_ret2
        exact ⟨Or.inr ⟨notPl_texts HNo.out, _, _, _, rfl⟩, hb⟩
    · obtain rfl : i = n := by omega
      obtain ⟨a2, c2, rfl, hl2⟩ := liesV_own HV.out.row
      have HFs : Hid (Fsh w.heap.size a2) := (own_capS HV.out.row _ _ _ rfl).2
      have HL2 : Hid (LiesV wr a2 (tvs ss)) := hl2
      clear hl2
      by_cases hr0 : r.size = 0
      · have HY : Hid (Um.rdt i s.data.toList = some ss) := by
          show _ = _
          rw [HRD.out, Nat.sub_self, Um.rdt, if_pos (by rw [← List.length_eq_zero_iff, Array.length_toList]; exact hr0)]
          simp
        have hrt := (toList_nil r).2 hr0
        clear hr0
        go_wp2
        go_ret2
        exact ⟨Or.inl ⟨tvs ss, a2, c2, isPl_texts HY.out, rfl, HL2.out, HFs.out⟩, hb⟩
      · have HNo : Hid (Um.rdt i s.data.toList = none) := by
          show _ = _
          rw [HRD.out, Nat.sub_self, Um.rdt, if_neg (by rw [← List.length_eq_zero_iff, Array.length_toList]; exact hr0)]
          rfl
        have hrt : r.toList.isEmpty = false := by rw [toList_isEmpty]; simp [hr0]
        go_wp2
        go_ret2
        exact ⟨Or.inr ⟨notPl_texts HNo.out, _, _, _, rfl⟩, hb⟩
end Go.Proofs.YteeheodcejeloaaGreatDoor

namespace Go.Proofs.YteeheodcejeloaaGreatDoor
open Go.RowKit
theorem sgn8_wrap {x : Nat} (h : x < 18446744073709551616) : IntKind.i64.wrap (x : Int) = Um.sgn 8 x := by
  unfold Um.sgn
  rw [IntKind.wrap_i64]
  have e1 : (2 : Nat) ^ (8 * 8 - 1) = 9223372036854775808 := by decide
  have e2 : (2 : Int) ^ (8 * 8) = 18446744073709551616 := by decide
  rw [e1, e2]
  split <;> omega
theorem sgn4_low {x : Nat} (h : x ≤ 2147483647) : Um.sgn 4 x = (x : Int) := by
  unfold Um.sgn
  have e1 : (2 : Nat) ^ (8 * 4 - 1) = 2147483648 := by decide
  rw [e1, if_pos (by omega)]
theorem sgn4_high {x : Nat} (h : ¬ x ≤ 2147483647) : Um.sgn 4 x = (x : Int) - 4294967296 := by
  unfold Um.sgn
  have e1 : (2 : Nat) ^ (8 * 4 - 1) = 2147483648 := by decide
  have e2 : (2 : Int) ^ (8 * 4) = 4294967296 := by decide
  rw [e1, e2, if_neg (by omega)]
theorem rdvs_snoc (kd : Int) (l : List UInt8) (i : Nat) : rdvs kd l (i + 1) = rdvs kd l i ++ [⟨kd, Um.rdn (szOf kd) l i, ⟨#[]⟩⟩] := by
  unfold rdvs
  rw [List.range_succ, List.map_append]
  rfl
set_option maxRecDepth 100000 in
set_option maxHeartbeats 1600000 in
theorem plOf_nums (kd : Int) (s : ByteArray) (n : Nat) (w : World) (hs : s.size ≤ 3000) (hn : n ≤ 20000) (hk : kd = 2 ∨ kd = 3 ∨ kd = 5) :
    Calls Tryz.prog 50 #[.int .i64 kd, .string s, .int .i64 n] w fun e w' => RetOkC w.heap.size (IsPl kd s.data.toList n) e w' ∧ Below w.heap.size w w' := by
  obtain ⟨iv, hvi, hv0, hv1, hv2⟩ := info_parts Tryz.infoV
  have HLen : Hid (s.data.toList.length = s.size) := Array.length_toList
  have HK : Hid (kd = 2 ∨ kd = 3 ∨ kd = 5) := hk
  have hk1 : (kd == 1) = false := by rcases hk with rfl | rfl | rfl <;> rfl
  have hk4 : (kd == 4) = false := by rcases hk with rfl | rfl | rfl <;> rfl
  have hcs : ((kd == 2) = true ∧ szOf kd = 4) ∨ ((kd == 2) = false ∧ szOf kd = 8) := by rcases hk with rfl | rfl | rfl <;> simp [szOf]
  obtain ⟨z, HZ⟩ : ∃ z, Hid (z = szOf kd) := ⟨_, rfl⟩
  rw [← HZ.out] at hcs
  clear hk
  have hz8 : z = 4 ∨ z = 8 := by rcases hcs with h | h <;> omega
  go_enter Tryz.func50, Tryz.ntmps50
  go_wp2
  go_loopw [1, 8, 12] (fun y o x wr => ∃ (i t : Nat) (r : ByteArray), i ≤ n ∧ x = .int .i64 i ∧ y = .string r ∧ Hid (t = z * i) ∧ t ≤ s.size ∧ Hid (r.size = s.size - t) ∧ Hid (r.data.toList = s.data.toList.drop t) ∧ Hid (VOw w o wr (rdvs kd s.data.toList i))) (fun _ _ x _ => n - (intOf x).toNat)
  case atStart => exact ⟨0, 0, s, Nat.zero_le _, rfl, rfl, by show _ = _; simp, Nat.zero_le _, by show _ = _; simp, by show _ = _; simp, VOw.start w⟩
  case round =>
    obtain ⟨i, t, r, hik, rfl, rfl, HT, hts, HRS, HRL, HV⟩ := hrel
    have hr1 : r.size ≤ 3000 := by rw [HRS.out]; omega
    have hb := HV.out.old
    by_cases hlt : i < n
    · by_cases hroom : r.size < z
      · have HNo : Hid (¬ ∃ vs, IsPl kd s.data.toList n vs) := notPl_nums HK.out (by
          rw [HLen.out, ← HZ.out]
          intro h
          have h2 : z * (i + 1) ≤ z * n := Nat.mul_le_mul_left _ hlt
          rw [Nat.mul_add, ← HT.out, ← h] at h2
          have := HRS.out
          omega)
        rcases hcs with ⟨hq, hz⟩ | ⟨hq, hz⟩
        all_goals
          subst hz
          go_wp2
          go_ret2
          exact ⟨Or.inr ⟨HNo.out, _, _, _, rfl⟩, hb⟩
      · have HT1 : Hid (t + z = z * (i + 1)) := by show _ = _; rw [Nat.mul_add, Nat.mul_one, HT.out]
        have HVS := rdvs_snoc kd s.data.toList i
        have hX : Um.rdn (szOf kd) s.data.toList i = Um.sgn z (Um.lev (r.data.toList.take z)) := by
          unfold Um.rdn
          rw [← HZ.out, ← HT.out, HRL.out]
        rw [hX] at HVS
        clear hX
        have hxl : Um.lev (r.data.toList.take z) < 2 ^ (8 * z) := Um.lev_take_lt _ z (by rw [Array.length_toList]; show z ≤ r.size; omega)
        have HRL2 : Hid ((r.extract z r.size).data.toList = s.data.toList.drop (t + z)) := by
          show _ = _
          rw [drop_ext, HRL.out, List.drop_drop]
        have HRX : Hid ((r.extract z r.size).size = s.size - (t + z)) := by show _ = _; rw [ByteArray.size_extract]; have := HRS.out; omega
        have HLit : Hid (Calls Tryz.prog 48 #[.string r, .int .i64 (z : Int)] wr fun e w' => e = .returned (.int .u64 (Um.lev (r.data.toList.take z))) ∧ w' = wr) := readLittle_any r z wr (by omega) (by omega) (by omega)
        have HTL : Hid ((rdvs kd s.data.toList i).length = i) := rdvs_len _ _ _
        have htz : t + z ≤ s.size := by have := HRS.out; omega
        generalize Um.lev (r.data.toList.take z) = x at *
        have HVS2 : Hid _ := HVS
        clear HVS
        rcases hcs with ⟨hq, hz⟩ | ⟨hq, hz⟩
        · subst hz
          have h32 : (2 : Nat) ^ (8 * 4) = 4294967296 := by decide
          rw [h32] at hxl
          clear h32
          have hwx : IntKind.i64.wrap (x : Int) = (x : Int) := by rw [IntKind.wrap_i64]; omega
          by_cases hlow : x ≤ 2147483647
          · have hsg := sgn4_low hlow
            rw [hsg] at HVS2
            have hd : decide ((2147483647 : Int) < (x : Int)) = false := by simp; omega
            clear hsg
            go_wp2_with (first
              | (go_at_call 48; refine HLit.out.mono ?_; rintro e w1 ⟨rfl, hw⟩; obtain rfl := hw.symm)
              | (at_builtin; refine wpList_append_own _ rfl _ _ 27 rfl w.heap.size 41 iv (.agg #[.int .i64 0, .int .i64 0, .string ⟨#[]⟩]) 3 32 Tryz.underlying27 hvi hv0 hv1 hv2 rfl (by decide) _ _ (vcells (rdvs kd s.data.toList i)) rfl (HV.out.row.alloc _) ⟨_, 0, none⟩ 1 1 [.int .i64 kd, .int .i64 (x : Int), .string ⟨#[]⟩] rfl rfl three_cells (by intro u hu; simp at hu; rcases hu with rfl | rfl | rfl <;> rfl) (by have := HTL.out; unfold maxLen; omega) (by have := HTL.out; omega) (by have := HV.out.old.size; simp at this ⊢; omega) ?_; intro v1 w1 hown1 hgrow1 _; have HV2 : Hid (VOw w v1 w1 (rdvs kd s.data.toList i ++ [⟨kd, (x : Int), ⟨#[]⟩⟩])) := HV.out.push (v := ⟨kd, (x : Int), ⟨#[]⟩⟩) hown1 hgrow1))
            go_roundw
            case rel => exact ⟨i + 1, t + 4, r.extract 4 r.size, by omega, by go_num, rfl, HT1, htz, HRX, HRL2, by rw [HVS2.out]; exact HV2⟩
            case measure => simp [intOf]; omega
          · have hsg := sgn4_high hlow
            rw [hsg] at HVS2
            have hd : decide ((2147483647 : Int) < (x : Int)) = true := by simp; omega
            have hwy : IntKind.i64.wrap ((x : Int) - 4294967296) = (x : Int) - 4294967296 := by rw [IntKind.wrap_i64]; omega
            clear hsg
            go_wp2_with (first
              | (go_at_call 48; refine HLit.out.mono ?_; rintro e w1 ⟨rfl, hw⟩; obtain rfl := hw.symm)
              | (at_builtin; refine wpList_append_own _ rfl _ _ 27 rfl w.heap.size 41 iv (.agg #[.int .i64 0, .int .i64 0, .string ⟨#[]⟩]) 3 32 Tryz.underlying27 hvi hv0 hv1 hv2 rfl (by decide) _ _ (vcells (rdvs kd s.data.toList i)) rfl (HV.out.row.alloc _) ⟨_, 0, none⟩ 1 1 [.int .i64 kd, .int .i64 ((x : Int) - 4294967296), .string ⟨#[]⟩] rfl rfl three_cells (by intro u hu; simp at hu; rcases hu with rfl | rfl | rfl <;> rfl) (by have := HTL.out; unfold maxLen; omega) (by have := HTL.out; omega) (by have := HV.out.old.size; simp at this ⊢; omega) ?_; intro v1 w1 hown1 hgrow1 _; have HV2 : Hid (VOw w v1 w1 (rdvs kd s.data.toList i ++ [⟨kd, (x : Int) - 4294967296, ⟨#[]⟩⟩])) := HV.out.push (v := ⟨kd, (x : Int) - 4294967296, ⟨#[]⟩⟩) hown1 hgrow1))
            go_roundw
            case rel => exact ⟨i + 1, t + 4, r.extract 4 r.size, by omega, by go_num, rfl, HT1, htz, HRX, HRL2, by rw [HVS2.out]; exact HV2⟩
            case measure => simp [intOf]; omega
        · subst hz
          have h64 : (2 : Nat) ^ (8 * 8) = 18446744073709551616 := by decide
          rw [h64] at hxl
          clear h64
          obtain ⟨y, HY⟩ : ∃ y, Hid (y = Um.sgn 8 x) := ⟨_, rfl⟩
          have hwx : IntKind.i64.wrap (x : Int) = y := by rw [HY.out]; exact sgn8_wrap hxl
          rw [← HY.out] at HVS2
          go_wp2_with (first
            | (go_at_call 48; refine HLit.out.mono ?_; rintro e w1 ⟨rfl, hw⟩; obtain rfl := hw.symm)
            | (at_builtin; refine wpList_append_own _ rfl _ _ 27 rfl w.heap.size 41 iv (.agg #[.int .i64 0, .int .i64 0, .string ⟨#[]⟩]) 3 32 Tryz.underlying27 hvi hv0 hv1 hv2 rfl (by decide) _ _ (vcells (rdvs kd s.data.toList i)) rfl (HV.out.row.alloc _) ⟨_, 0, none⟩ 1 1 [.int .i64 kd, .int .i64 y, .string ⟨#[]⟩] rfl rfl three_cells (by intro u hu; simp at hu; rcases hu with rfl | rfl | rfl <;> rfl) (by have := HTL.out; unfold maxLen; omega) (by have := HTL.out; omega) (by have := HV.out.old.size; simp at this ⊢; omega) ?_; intro v1 w1 hown1 hgrow1 _; have HV2 : Hid (VOw w v1 w1 (rdvs kd s.data.toList i ++ [⟨kd, y, ⟨#[]⟩⟩])) := HV.out.push (v := ⟨kd, y, ⟨#[]⟩⟩) hown1 hgrow1))
          go_roundw
          case rel => exact ⟨i + 1, t + 8, r.extract 8 r.size, by omega, by go_num, rfl, HT1, htz, HRX, HRL2, by rw [HVS2.out]; exact HV2⟩
          case measure => simp [intOf]; omega
    · obtain rfl : i = n := by omega
      obtain ⟨a2, c2, rfl, hl2⟩ := liesV_own HV.out.row
      have HFs : Hid (Fsh w.heap.size a2) := (own_capS HV.out.row _ _ _ rfl).2
      have HL2 : Hid (LiesV wr a2 (rdvs kd s.data.toList i)) := hl2
      clear hl2
      by_cases hr0 : r.size = 0
      · have HY : Hid (IsPl kd s.data.toList i (rdvs kd s.data.toList i)) := isPl_nums HK.out (by rw [HLen.out, ← HZ.out, ← HT.out]; have := HRS.out; omega)
        have hrt := (toList_nil r).2 hr0
        clear hr0
        go_wp2
        go_ret2
        exact ⟨Or.inl ⟨_, a2, c2, HY.out, rfl, HL2.out, HFs.out⟩, hb⟩
      · have HNo : Hid (¬ ∃ vs, IsPl kd s.data.toList i vs) := notPl_nums HK.out (by rw [HLen.out, ← HZ.out, ← HT.out]; have := HRS.out; omega)
        have hrt : r.toList.isEmpty = false := by rw [toList_isEmpty]; simp [hr0]
        go_wp2
        go_ret2
        exact ⟨Or.inr ⟨HNo.out, _, _, _, rfl⟩, hb⟩
end Go.Proofs.YteeheodcejeloaaGreatDoor
