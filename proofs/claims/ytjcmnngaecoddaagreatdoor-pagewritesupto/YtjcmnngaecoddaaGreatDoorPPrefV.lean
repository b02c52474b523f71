/-
  enc.prefixValues: the texts of values, by what they have in common.
-/
import Derived.Test.YtjcmnngaecoddaaGreatDoorPBPref
import Derived.Test.YtjcmnngaecoddaaGreatDoorPBPTexts
import Derived.Test.YtjcmnngaecoddaaGreatDoorPSmall
namespace Go.Proofs.YtjcmnngaecoddaaGreatDoor
open Go.RowKit
/-- The texts of values. -/
def vtx (vs : List Vl) : List ByteArray := vs.map (·.s)
theorem vtx_len (vs : List Vl) : (vtx vs).length = vs.length := by simp [vtx]
set_option maxRecDepth 100000 in
set_option maxHeartbeats 1600000 in
theorem prefixValues_any (a : Option Addr) (vs : List Vl) (c : Nat) (kd : Int) (w : World) (ev : Value) (hg : w.cell? ⟨2, 0, none⟩ = some ev) (hn : vs.length ≤ 20000) (hl : LiesV w a vs) (hx : ∀ v ∈ vs, v.s.size ≤ 100) :
    Calls Tryz.prog 73 #[.int .i64 kd, .slice a vs.length c] w fun e w' => e = .returned (.tuple #[.string ⟨(Um.prefs [] (bys (vtx vs))).toArray⟩, .nilIface]) ∧ Below w.heap.size w w' := by
  obtain ⟨iv, hvi, hv0, hv1, hv2⟩ := info_parts Tryz.infoS
  have HL : Hid (LiesV w a vs) := hl
  have HX : Hid (∀ t ∈ vtx vs, t.size ≤ 100) := fun t ht => by obtain ⟨v, hv, rfl⟩ := List.mem_map.1 ht; exact hx v hv
  have HG : Hid _ := hg
  obtain ⟨n, hvn⟩ : ∃ n, vs.length = n := ⟨_, rfl⟩
  have HVN : Hid (vs.length = n) := hvn
  rw [hvn] at hn ⊢
  clear hl hx hg hvn
  obtain ⟨M, hM⟩ : ∃ M, M = madeCells (Value.string ⟨#[]⟩).cells (((n : Nat) : Int).toNat * iv.size) := ⟨_, rfl⟩
  have hMs : M.size = n := by rw [hM, size_madeCells, hv1]; simp
  have hmk : ∀ W : World, (Instr.makeSlice 92 (.int .i64 (n : Int)) (.int .i64 (n : Int))).run Tryz.prog W = .ok (.slice (some ⟨W.heap.size, 0, none⟩) n n) (W.alloc (.cells M 9)) := fun W => by
    have h := run_make (P := Tryz.prog) W 92 9 iv (.string ⟨#[]⟩) Tryz.underlying92 hvi hv0 .i64 .i64 (n : Int) (n : Int) (by omega) (by omega) (by rw [hv2]; omega) (by omega)
    rw [← hM] at h
    simpa using h
  have HS : Hid (GRow (fun j => .string ((vtx vs).getD j ⟨#[]⟩)) n w.heap.size w (w.alloc (.cells M 9)) 0) := GRow.start _ _ _ _ _ hMs
  clear hM hMs
  go_enter Tryz.func73, Tryz.ntmps73
  go_wp2
  clear hmk
  go_loopw [14] (fun x wr => ∃ i : Nat, i ≤ n ∧ x = .int .i64 i ∧ w.heap.size < wr.heap.size ∧ Hid (GRow (fun j => .string ((vtx vs).getD j ⟨#[]⟩)) n w.heap.size w wr i)) (fun x _ => n - (intOf x).toNat)
  case atStart => exact ⟨0, Nat.zero_le _, rfl, by simp, HS⟩
  case round =>
    clear HS
    obtain ⟨i, hik, rfl, hsl, HV⟩ := hrel
    have hb := HV.out.old
    by_cases hlt : i < n
    · obtain ⟨b, o, rfl, hc0, hc1, hc2⟩ := (HL.out.keep hb) i (by rw [HVN.out]; exact hlt)
      have HE : Hid ((vtx vs).getD i ⟨#[]⟩ = (vs[i]'(by rw [HVN.out]; exact hlt)).s) := by
        show _ = _
        simp [vtx, List.getD, show i < vs.length by rw [HVN.out]; exact hlt]
      generalize vs[i]'(by rw [HVN.out]; exact hlt) = v at *
      obtain ⟨k0, n0, s0⟩ := v
      simp only at hc0 hc1 hc2 HE
      obtain ⟨y0, g0⟩ := HV.out.any i hlt
      have f0 := HV.out.froz i hlt
      go_wp2
      go_roundw
      case rel =>
        exact ⟨i + 1, by omega, by go_num, by simp; omega, (HV.out.next (Nat.le_refl _) hlt (by rw [HE.out])).keep (by simpa using hsl) ((Below.refl _ _).alloc (Nat.le_refl _) _)⟩
      case measure => simp [intOf]; omega
    · obtain rfl : i = n := by omega
      have HLS : Hid (LiesS wr (some ⟨w.heap.size, 0, none⟩) (vtx vs)) := fun j hj => by
        rw [vtx_len, HVN.out] at hj
        refine ⟨w.heap.size, 0, rfl, ?_⟩
        rw [Nat.zero_add, HV.out.done j hj]
        simp [List.getD, show j < (vtx vs).length by rw [vtx_len, HVN.out]; exact hj]
      have hgr := (hb.cell (World.block_lt_of_cell? w _ HG.out)).trans HG.out
      have hp := prefix_right (some ⟨w.heap.size, 0, none⟩) (vtx vs) i wr ev hgr (by rw [vtx_len, HVN.out]; omega) HLS.out HX.out
      rw [vtx_len, HVN.out] at hp
      go_wp2_with fail
      refine hp.mono ?_
      clear hp
      rintro e w2 ⟨rfl, hb2⟩
      go_wp2
      go_ret2
      exact ⟨rfl, hb.trans (hb2.mono hb.size)⟩
end Go.Proofs.YtjcmnngaecoddaaGreatDoor
