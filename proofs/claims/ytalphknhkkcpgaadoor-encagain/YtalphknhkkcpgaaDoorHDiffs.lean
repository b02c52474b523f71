/-
  enc.differences: each number less the one ahead of it.
-/
import Derived.Test.YtalphknhkkcpgaaDoorHPBools
import Derived.Test.YtalphknhkkcpgaaDoorHRefBits
import Derived.Test.YtalphknhkkcpgaaDoorHBMinMax
namespace Go.Proofs.YtalphknhkkcpgaaDoor
open Go.RowKit
theorem Tryd.infoI64 : (Tryd.prog.info? 2).map (fun i => (i.zero, i.size, i.bytes)) = some (some (.int .i64 0), 1, 8) := by kernel_rfl
theorem Tryd.underlyingI64s : Tryd.prog.underlying 81 = some (.slice 2) := by kernel_rfl
/-- The difference at a place. -/
def dif (vs : List Vl) (j : Nat) : Int := wrap64 ((vns vs).getD (j + 1) 0 - (vns vs).getD j 0)
def difs (vs : List Vl) : List Int := (List.range (vs.length - 1)).map (dif vs)
theorem difs_len (vs : List Vl) : (difs vs).length = vs.length - 1 := by simp [difs]
set_option maxRecDepth 100000 in
set_option maxHeartbeats 1600000 in
theorem differences_any (a : Option Addr) (vs : List Vl) (c : Nat) (w : World) (hl : LiesV w a vs) (h1 : 1 ≤ vs.length) (hn : vs.length ≤ 20000) :
    Calls Tryd.prog 54 #[.slice a vs.length c] w fun e w' => RetT e w' (vs.length - 1) 2 (i64s (difs vs)) ∧ Below w.heap.size w w' := by
  obtain ⟨k, hk⟩ : ∃ k, vs.length = k + 1 := ⟨vs.length - 1, by omega⟩
  obtain ⟨iv, hvi, hv0, hv1, hv2⟩ := info_parts Tryd.infoI64
  obtain ⟨M, hM⟩ : ∃ M, M = madeCells (Value.int .i64 0).cells (((k : Nat) : Int).toNat * iv.size) := ⟨_, rfl⟩
  have hMs : M.size = k := by rw [hM, size_madeCells, hv1]; simp
  have hmk : ∀ W : World, (Instr.makeSlice 81 (.int .i64 (k : Int)) (.int .i64 (k : Int))).run Tryd.prog W = .ok (.slice (some ⟨W.heap.size, 0, none⟩) k k) (W.alloc (.cells M 2)) := fun W => by
    have h := run_make (P := Tryd.prog) W 81 2 iv (.int .i64 0) Tryd.underlyingI64s hvi hv0 .i64 .i64 (k : Int) (k : Int) (by omega) (by omega) (by rw [hv2]; omega) (by omega)
    rw [← hM] at h
    simpa using h
  have HS : Hid (GRow (fun j => .int .i64 (dif vs j)) k w.heap.size w (w.alloc (.cells M 2)) 0) := GRow.start _ _ _ _ _ hMs
  have HST : Hid (Typed w.heap.size 2 (w.alloc (.cells M 2))) := Typed.new _ _ _
  have HL : Hid (LiesV w a vs) := hl
  have HK : Hid (vs.length = k + 1) := hk
  have hk2 : k ≤ 20000 := by omega
  rw [hk]
  clear hM hMs hl h1 hn hk
  go_enter Tryd.func54, Tryd.ntmps54
  go_wp2
  clear hmk
  go_loopw [11] (fun x wr => ∃ i : Nat, i ≤ k ∧ x = .int .i64 i ∧ w.heap.size < wr.heap.size ∧ Hid (GRow (fun j => .int .i64 (dif vs j)) k w.heap.size w wr i) ∧ Hid (Typed w.heap.size 2 wr)) (fun x _ => k - (intOf x).toNat)
  case atStart => exact ⟨0, Nat.zero_le _, rfl, by simp, HS, HST⟩
  case round =>
    clear HS HST
    obtain ⟨i, hik, rfl, hsl, HV, HTy⟩ := hrel
    have hb := HV.out.old
    by_cases hlt : i < k
    · obtain ⟨b, o, rfl, _, hc, _⟩ := (HL.out.keep hb) i (by rw [HK.out]; omega)
      obtain ⟨b', o', e', _, hc', _⟩ := (HL.out.keep hb) (i + 1) (by rw [HK.out]; omega)
      obtain ⟨rfl, rfl⟩ : b = b' ∧ o = o' := by simpa using e'
      clear e'
      have HD : Hid (dif vs i = wrap64 ((vs[i + 1]'(by rw [HK.out]; omega)).n - (vs[i]'(by rw [HK.out]; omega)).n)) := by
        have hi1 : i + 1 < vs.length := by rw [HK.out]; omega
        have hi0 : i < vs.length := by omega
        show _ = _
        simp [dif, vns, List.getD, hi1, hi0]
      generalize (vs[i + 1]'(by rw [HK.out]; omega)).n = x1 at *
      generalize (vs[i]'(by rw [HK.out]; omega)).n = x0 at *
      obtain ⟨y0, g0⟩ := HV.out.any i hlt
      have f0 := HV.out.froz i hlt
      go_wp2
      go_region
      all_goals go_wp2
      all_goals go_roundw
      case rel =>
        refine ⟨i + 1, by omega, by go_num, by simpa using hsl, ?_, (HTy.out.set _ _).keep (Below.refl _ _).drew⟩
        exact (HV.out.next (Nat.le_refl _) hlt (by show _ = Value.int .i64 (dif vs i); rw [HD.out])).keep (by simpa using hsl) (Below.refl _ _).drew
      case measure => simp [intOf]; omega
    · obtain rfl : i = k := by omega
      have HLV : Hid (Lies wr (some ⟨w.heap.size, 0, none⟩) (i64s (difs vs))) := fun j hj => by
        rw [i64s_len, difs_len, HK.out] at hj
        refine ⟨w.heap.size, 0, rfl, ?_⟩
        rw [Nat.zero_add, HV.out.done j (by omega)]
        simp [i64s, difs]
      go_wp2
      go_ret
      exact ⟨⟨_, rfl, HLV.out, HTy.out⟩, hb⟩
end Go.Proofs.YtalphknhkkcpgaaDoor
