/-
  enc.prefixValues and the reference's TextsOf: the texts of values.
-/
import Derived.Test.YtalphknhkkcpgaaDoorJDeltaOf
import Derived.Test.YtalphknhkkcpgaaDoorJBPref
import Derived.Test.YtalphknhkkcpgaaDoorJPrefOf
namespace Go.Proofs.YtalphknhkkcpgaaDoor
open Go.RowKit
/-- The texts of values. -/
def vtx (vs : List Vl) : List ByteArray := vs.map (·.s)
theorem vtx_len (vs : List Vl) : (vtx vs).length = vs.length := by simp [vtx]
def scells (ts : List ByteArray) : List Value := ts.map .string
theorem scells_len (ts : List ByteArray) : (scells ts).length = ts.length := by simp [scells]
theorem liesS_own {w : World} {B e : Nat} {v : Value} {ts : List ByteArray} (h : w.ownsRow B e 1 v (scells ts).length (scells ts)) : ∃ a c, v = .slice a ts.length c ∧ LiesS w a ts := by
  by_cases h0 : 0 < (scells ts).length
  · obtain ⟨g, c, rfl, hl⟩ := own_lies h h0
    refine ⟨_, c, by rw [scells_len], fun j hj => ?_⟩
    obtain ⟨b, o, e, hc⟩ := hl j (by rw [scells_len]; exact hj)
    exact ⟨b, o, e, by rw [hc]; simp [scells]⟩
  · rw [scells_len] at h0
    have hz : ts.length = 0 := by omega
    rw [scells_len, hz] at h
    rcases h.2 with ⟨rfl, _⟩ | ⟨g, cap, cur, rfl, _⟩
    · exact ⟨none, 0, by rw [hz], fun j hj => absurd hj (by omega)⟩
    · exact ⟨_, cap, by rw [hz], fun j hj => absurd hj (by omega)⟩
set_option maxRecDepth 100000 in
set_option maxHeartbeats 1600000 in
theorem textsOf_any (a : Option Addr) (vs : List Vl) (c : Nat) (w : World) (hn : vs.length ≤ 20000) (hl : LiesV w a vs) :
    Calls Tryd.prog 34 #[.slice a vs.length c] w fun e w' => (∃ a' c', e = .returned (.slice a' vs.length c') ∧ LiesS w' a' (vtx vs)) ∧ Below w.heap.size w w' := by
  obtain ⟨iv, hvi, hv0, hv1, hv2⟩ := info_parts Tryd.infoS
  have HL : Hid (LiesV w a vs) := hl
  clear hl
  go_enter Tryd.func34, Tryd.ntmps34
  go_wp2
  go_loopw [3, 4] (fun o x wr => ∃ i : Nat, i ≤ vs.length ∧ x = .int .i64 i ∧ Hid (wr.ownsRow w.heap.size 9 1 o (scells (vtx (vs.take i))).length (scells (vtx (vs.take i)))) ∧ Below w.heap.size w wr) (fun _ x _ => vs.length - (intOf x).toNat)
  case atStart => exact ⟨0, Nat.zero_le _, rfl, World.ownsRow_nil _ _ _ _, Below.refl _ _⟩
  case round =>
    obtain ⟨i, hik, rfl, HO, hb⟩ := hrel
    by_cases hlt : i < vs.length
    · obtain ⟨b, o, rfl, _, _, hc⟩ := (HL.out.keep hb) i hlt
      have HQ : Hid (scells (vtx (vs.take (i + 1))) = scells (vtx (vs.take i)) ++ [.string vs[i].s]) := by
        show _ = _
        rw [List.take_succ_eq_append_getElem hlt]
        simp only [scells, vtx, List.map_append]
        rfl
      have hcl : (scells (vtx (vs.take i))).length ≤ 20000 := by rw [scells_len, vtx_len, List.length_take]; omega
      generalize scells (vtx (vs.take i)) = cs at *
      generalize vs[i].s = t at *
      go_wp2_with (at_builtin; refine wpList_append_own _ rfl _ _ 43 rfl w.heap.size 9 iv (.string ⟨#[]⟩) 1 16 Tryd.underlying43 hvi hv0 hv1 hv2 rfl (by decide) _ cs.length cs rfl (HO.out.alloc _) ⟨_, 0, none⟩ 1 1 [.string t] rfl rfl (cell_one_new _ _ _) (by intro u hu; simp at hu; subst hu; rfl) (by unfold maxLen; omega) (by omega) (by have := hb.size; simp; omega) ?_; intro v' w3 hown3 hgrow3 _; have HO3 : Hid _ := hown3; have hb3 : Below w.heap.size w w3 := (hb.alloc hb.size _).grown hgrow3 (by have := hb.size; simp; omega) (fun k hk => (HO.out.lt k hk).1))
      go_roundw
      case rel => exact ⟨i + 1, by omega, by go_num, by rw [HQ.out, List.length_append]; exact HO3, hb3⟩
      case measure => simp [intOf]; omega
    · obtain rfl : i = vs.length := by omega
      rw [List.take_length] at HO
      obtain ⟨a', c', rfl, hl'⟩ := liesS_own HO.out
      have HL' : Hid _ := hl'
      clear hl'
      rw [vtx_len]
      go_wp2
      go_ret
      exact ⟨⟨a', c', rfl, HL'.out⟩, hb⟩
set_option maxRecDepth 100000 in
set_option maxHeartbeats 1600000 in
theorem prefixValues_any (a : Option Addr) (vs : List Vl) (c : Nat) (kd : Int) (w : World) (ev : Value) (hg : w.cell? ⟨3, 0, none⟩ = some ev) (hn : vs.length ≤ 20000) (hl : LiesV w a vs) (hx : ∀ v ∈ vs, v.s.size ≤ 100) :
    Calls Tryd.prog 28 #[.int .i64 kd, .slice a vs.length c] w fun e w' => e = .returned (.tuple #[.string ⟨(Um.prefs [] (bys (vtx vs))).toArray⟩, .nilIface]) ∧ Below w.heap.size w w' := by
  obtain ⟨iv, hvi, hv0, hv1, hv2⟩ := info_parts Tryd.infoS
  have HL : Hid (LiesV w a vs) := hl
  have HX : Hid (∀ t ∈ vtx vs, t.size ≤ 100) := fun t ht => by obtain ⟨v, hv, rfl⟩ := List.mem_map.1 ht; exact hx v hv
  have HG : Hid _ := hg
  obtain ⟨n, hvn⟩ : ∃ n, vs.length = n := ⟨_, rfl⟩
  have HVN : Hid (vs.length = n) := hvn
  rw [hvn] at hn ⊢
  clear hl hx hg hvn
  obtain ⟨M, hM⟩ : ∃ M, M = madeCells (Value.string ⟨#[]⟩).cells (((n : Nat) : Int).toNat * iv.size) := ⟨_, rfl⟩
  have hMs : M.size = n := by rw [hM, size_madeCells, hv1]; simp
  have hmk : ∀ W : World, (Instr.makeSlice 43 (.int .i64 (n : Int)) (.int .i64 (n : Int))).run Tryd.prog W = .ok (.slice (some ⟨W.heap.size, 0, none⟩) n n) (W.alloc (.cells M 9)) := fun W => by
    have h := run_make (P := Tryd.prog) W 43 9 iv (.string ⟨#[]⟩) Tryd.underlying43 hvi hv0 .i64 .i64 (n : Int) (n : Int) (by omega) (by omega) (by rw [hv2]; omega) (by omega)
    rw [← hM] at h
    simpa using h
  have HS : Hid (GRow (fun j => .string ((vtx vs).getD j ⟨#[]⟩)) n w.heap.size w (w.alloc (.cells M 9)) 0) := GRow.start _ _ _ _ _ hMs
  clear hM hMs
  go_enter Tryd.func28, Tryd.ntmps28
  go_wp2
  clear hmk
  go_loopw [14] (fun x wr => ∃ i : Nat, i ≤ n ∧ x = .int .i64 i ∧ w.heap.size < wr.heap.size ∧ Hid (GRow (fun j => .string ((vtx vs).getD j ⟨#[]⟩)) n w.heap.size w wr i)) (fun x _ => n - (intOf x).toNat)
  case atStart => exact ⟨0, Nat.zero_le _, rfl, by simp, HS⟩
  case round =>
    clear HS
    obtain ⟨i, hik, rfl, hsl, HV⟩ := hrel
    have hb := HV.out.old
    by_cases hlt : i < n
    · obtain ⟨b, o, rfl, hc0, hc1, hc2⟩ := (HL.out.keep hb) i (by rw [HVN.out]; exact hlt)
      have HE : Hid ((vtx vs).getD i ⟨#[]⟩ = (vs[i]'(by rw [HVN.out]; exact hlt)).s) := by
        show _ = _
        simp [vtx, List.getD, show i < vs.length by rw [HVN.out]; exact hlt]
      generalize vs[i]'(by rw [HVN.out]; exact hlt) = v at *
      obtain ⟨k0, n0, s0⟩ := v
      simp only at hc0 hc1 hc2 HE
      obtain ⟨y0, g0⟩ := HV.out.any i hlt
      have f0 := HV.out.froz i hlt
      go_wp2
      go_roundw
      case rel =>
        exact ⟨i + 1, by omega, by go_num, by simp; omega, (HV.out.next (Nat.le_refl _) hlt (by rw [HE.out])).keep (by simpa using hsl) ((Below.refl _ _).alloc (Nat.le_refl _) _)⟩
      case measure => simp [intOf]; omega
    · obtain rfl : i = n := by omega
      have HLS : Hid (LiesS wr (some ⟨w.heap.size, 0, none⟩) (vtx vs)) := fun j hj => by
        rw [vtx_len, HVN.out] at hj
        refine ⟨w.heap.size, 0, rfl, ?_⟩
        rw [Nat.zero_add, HV.out.done j hj]
        simp [List.getD, show j < (vtx vs).length by rw [vtx_len, HVN.out]; exact hj]
      have hgr := (hb.cell (World.block_lt_of_cell? w _ HG.out)).trans HG.out
      have hp := prefix_right (some ⟨w.heap.size, 0, none⟩) (vtx vs) i wr ev hgr (by rw [vtx_len, HVN.out]; omega) HLS.out HX.out
      rw [vtx_len, HVN.out] at hp
      go_wp2_with fail
      refine hp.mono ?_
      clear hp
      rintro e w2 ⟨rfl, hb2⟩
      go_wp2
      go_ret2
      exact ⟨rfl, hb.trans (hb2.mono hb.size)⟩
end Go.Proofs.YtalphknhkkcpgaaDoor
