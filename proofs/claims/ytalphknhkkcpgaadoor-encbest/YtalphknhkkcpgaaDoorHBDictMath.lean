/-
  Values by unlike ones and their places: the mathematics, without the program.
  enc.differences: each number less the one ahead of it.
-/
import Derived.Test.YtalphknhkkcpgaaDoorHMapV
import Derived.Test.YtalphknhkkcpgaaDoorHWordsMath
import Derived.Test.YtalphknhkkcpgaaDoorHBPTexts
import Derived.Lib.BitFns
import Derived.Test.YtalphknhkkcpgaaDoorHPBools
import Derived.Test.YtalphknhkkcpgaaDoorHRefBits
import Derived.Test.YtalphknhkkcpgaaDoorHBPlainAny
namespace Go.Proofs.YtalphknhkkcpgaaDoor
open Go.RowKit
namespace Um
/-- The width of the last place of so many. -/
def pw (n : Nat) : Nat := Lib.bitLen (n - 1)
theorem lt_bitLen : ∀ (f x : Nat), x < 2 ^ f → f ≤ 64 → x < 2 ^ Lib.bitLen x
  | 0, x, h, _ => by have : x = 0 := by simpa using h
                     subst this; decide
  | f + 1, x, h, hf => by
    by_cases h0 : x = 0
    · subst h0; decide
    · have hx : x < 2 ^ 64 := Nat.lt_of_lt_of_le h (Nat.pow_le_pow_right (by omega) hf)
      have ih := lt_bitLen f (x / 2) (by rw [Nat.pow_succ] at h; omega) (by omega)
      rw [Lib.bitLen_half x h0 hx, Nat.add_comm, Nat.pow_succ]
      omega
theorem lt_pw {p n : Nat} (h : p < n) (hn : n ≤ 20000) : p < 2 ^ pw n :=
  Nat.lt_of_le_of_lt (show p ≤ n - 1 by omega) (lt_bitLen 15 (n - 1) (Nat.lt_of_lt_of_le (show n - 1 < 20000 by omega) (by decide)) (by omega))
theorem pw_le {n : Nat} (hn : n ≤ 20000) : pw n ≤ 32 := Lib.bitLen_le _ 32 (by omega) (Nat.lt_of_lt_of_le (show n - 1 < 20001 by omega) (by decide))
theorem flush_len (w : Nat) (p : List Int) (hw : w ≤ 32) (hp : p.length ≤ 100000) : (flush w p).length ≤ 38 + 4 * p.length := by
  unfold flush
  split
  · simp
  · have h1 := uv_ten (n := 2 * ((p.length + 7) / 8) + 1) (by omega)
    have h2 : (p.length + 7) / 8 * w ≤ (p.length + 7) / 8 * 32 := Nat.mul_le_mul_left _ hw
    rw [List.length_append, lit_len]
    omega
theorem wr_len (w : Nat) (hw : w ≤ 32) : ∀ (f : Nat) (p r : List Int), p.length + r.length ≤ 100000 → (wr w f p r).length ≤ 60 + 4 * p.length + 60 * r.length := by
  intro f
  induction f with
  | zero => intro p r h; simp only [wr]; have := flush_len w p hw (by omega); omega
  | succ f ih =>
    intro p r h
    simp only [wr]
    split
    · have := flush_len w p hw (by omega); omega
    · rename_i h0
      have hl := lead_le r
      split
      · have := ih (p ++ r.take 8) (r.drop 8) (by simp; omega)
        simp only [List.length_append, List.length_take, List.length_drop] at this
        omega
      · rename_i h8
        have h1 := flush_len w p hw (by omega)
        have h2 := ih [] (r.drop (lead r)) (by simp; omega)
        have h3 := uv_ten (n := 2 * lead r) (by omega)
        have h4 : (w + 7) / 8 ≤ 4 := by omega
        simp only [List.length_append, lit_len, List.length_drop, List.length_nil] at *
        omega
theorem wrs_len (w : Nat) (hw : w ≤ 32) (xs : List Int) (h : xs.length ≤ 400) : (wrs w [] xs).length ≤ 30000 := by
  have := wr_len w hw xs.length [] xs (by simp; omega)
  unfold wrs
  simp at this
  omega
end Um
/-- Places as numbers. -/
def pints (ps : List Nat) : List Int := ps.map fun p : Nat => (p : Int)
theorem pints_len (ps : List Nat) : (pints ps).length = ps.length := by simp [pints]
/-- The bytes of Dict. -/
def dictB (kd : Int) (us : List Vl) (ps : List Nat) : List UInt8 := Um.uv us.length ++ Um.txt (plainB kd us) ++ Um.wrs (Um.pw us.length) [] (pints ps)
theorem right_sub {kd : Int} {vs us : List Vl} (h : Right kd vs) (hs : ∀ u ∈ us, u ∈ vs) : Right kd us := ⟨h.1, fun u hu => h.2 u (hs u hu)⟩
theorem plainB_len {kd : Int} {vs : List Vl} (h : Right kd vs) : (plainB kd vs).length ≤ 110 * vs.length + 8 := by
  unfold plainB
  split
  · unfold packed
    rw [Um.lit_len, vns_len]; omega
  · split
    · rename_i h4
      have := Um.txts_len (vss vs) fun s hm => by
        obtain ⟨v, hv, rfl⟩ := List.mem_map.1 hm
        have ho := (h.2 v hv).1
        unfold Vl.Ok OkV at ho
        rw [Array.length_toList]
        show v.s.size ≤ 100
        omega
      rw [vss_len] at this
      omega
    · rw [Um.nums_len, vns_len]
      split <;> omega
theorem pints_room {vs us : List Vl} {ps : List Nat} (h : Uq vs us ps) (hn : vs.length ≤ 20000) : ∀ j (hj : j < (pints ps).length), Room (Um.pw us.length) (pints ps)[j] := fun j hj => by
  have hl := h.len
  rw [pints_len] at hj
  have h1 := h.lt ps[j] (List.getElem_mem hj)
  have h2 := Um.lt_pw h1 (by omega)
  unfold Room
  simp only [pints, List.getElem_map]
  have e : ((2 ^ Um.pw us.length : Nat) : Int) = (2 : Int) ^ Um.pw us.length := by simp
  rw [← e]
  omega
end Go.Proofs.YtalphknhkkcpgaaDoor

namespace Go.Proofs.YtalphknhkkcpgaaDoor
open Go.RowKit
theorem Tryd.infoI64 : (Tryd.prog.info? 2).map (fun i => (i.zero, i.size, i.bytes)) = some (some (.int .i64 0), 1, 8) := by kernel_rfl
theorem Tryd.underlyingI64s : Tryd.prog.underlying 81 = some (.slice 2) := by kernel_rfl
/-- The difference at a place. -/
def dif (vs : List Vl) (j : Nat) : Int := wrap64 ((vns vs).getD (j + 1) 0 - (vns vs).getD j 0)
def difs (vs : List Vl) : List Int := (List.range (vs.length - 1)).map (dif vs)
theorem difs_len (vs : List Vl) : (difs vs).length = vs.length - 1 := by simp [difs]
set_option maxRecDepth 100000 in
set_option maxHeartbeats 1600000 in
theorem differences_any (a : Option Addr) (vs : List Vl) (c : Nat) (w : World) (hl : LiesV w a vs) (h1 : 1 ≤ vs.length) (hn : vs.length ≤ 20000) :
    Calls Tryd.prog 54 #[.slice a vs.length c] w fun e w' => RetT e w' (vs.length - 1) 2 (i64s (difs vs)) ∧ Below w.heap.size w w' := by
  obtain ⟨k, hk⟩ : ∃ k, vs.length = k + 1 := ⟨vs.length - 1, by omega⟩
  obtain ⟨iv, hvi, hv0, hv1, hv2⟩ := info_parts Tryd.infoI64
  obtain ⟨M, hM⟩ : ∃ M, M = madeCells (Value.int .i64 0).cells (((k : Nat) : Int).toNat * iv.size) := ⟨_, rfl⟩
  have hMs : M.size = k := by rw [hM, size_madeCells, hv1]; simp
  have hmk : ∀ W : World, (Instr.makeSlice 81 (.int .i64 (k : Int)) (.int .i64 (k : Int))).run Tryd.prog W = .ok (.slice (some ⟨W.heap.size, 0, none⟩) k k) (W.alloc (.cells M 2)) := fun W => by
    have h := run_make (P := Tryd.prog) W 81 2 iv (.int .i64 0) Tryd.underlyingI64s hvi hv0 .i64 .i64 (k : Int) (k : Int) (by omega) (by omega) (by rw [hv2]; omega) (by omega)
    rw [← hM] at h
    simpa using h
  have HS : Hid (GRow (fun j => .int .i64 (dif vs j)) k w.heap.size w (w.alloc (.cells M 2)) 0) := GRow.start _ _ _ _ _ hMs
  have HST : Hid (Typed w.heap.size 2 (w.alloc (.cells M 2))) := Typed.new _ _ _
  have HL : Hid (LiesV w a vs) := hl
  have HK : Hid (vs.length = k + 1) := hk
  have hk2 : k ≤ 20000 := by omega
  rw [hk]
  clear hM hMs hl h1 hn hk
  go_enter Tryd.func54, Tryd.ntmps54
  go_wp2
  clear hmk
  go_loopw [11] (fun x wr => ∃ i : Nat, i ≤ k ∧ x = .int .i64 i ∧ w.heap.size < wr.heap.size ∧ Hid (GRow (fun j => .int .i64 (dif vs j)) k w.heap.size w wr i) ∧ Hid (Typed w.heap.size 2 wr)) (fun x _ => k - (intOf x).toNat)
  case atStart => exact ⟨0, Nat.zero_le _, rfl, by simp, HS, HST⟩
  case round =>
    clear HS HST
    obtain ⟨i, hik, rfl, hsl, HV, HTy⟩ := hrel
    have hb := HV.out.old
    by_cases hlt : i < k
    · obtain ⟨b, o, rfl, _, hc, _⟩ := (HL.out.keep hb) i (by rw [HK.out]; omega)
      obtain ⟨b', o', e', _, hc', _⟩ := (HL.out.keep hb) (i + 1) (by rw [HK.out]; omega)
      obtain ⟨rfl, rfl⟩ : b = b' ∧ o = o' := by simpa using e'
      clear e'
      have HD : Hid (dif vs i = wrap64 ((vs[i + 1]'(by rw [HK.out]; omega)).n - (vs[i]'(by rw [HK.out]; omega)).n)) := by
        have hi1 : i + 1 < vs.length := by rw [HK.out]; omega
        have hi0 : i < vs.length := by omega
        show _ = _
        simp [dif, vns, List.getD, hi1, hi0]
      generalize (vs[i + 1]'(by rw [HK.out]; omega)).n = x1 at *
      generalize (vs[i]'(by rw [HK.out]; omega)).n = x0 at *
      obtain ⟨y0, g0⟩ := HV.out.any i hlt
      have f0 := HV.out.froz i hlt
      go_wp2
      go_region
      all_goals go_wp2
      all_goals go_roundw
      case rel =>
        refine ⟨i + 1, by omega, by go_num, by simpa using hsl, ?_, (HTy.out.set _ _).keep (Below.refl _ _).drew⟩
        exact (HV.out.next (Nat.le_refl _) hlt (by show _ = Value.int .i64 (dif vs i); rw [HD.out])).keep (by simpa using hsl) (Below.refl _ _).drew
      case measure => simp [intOf]; omega
    · obtain rfl : i = k := by omega
      have HLV : Hid (Lies wr (some ⟨w.heap.size, 0, none⟩) (i64s (difs vs))) := fun j hj => by
        rw [i64s_len, difs_len, HK.out] at hj
        refine ⟨w.heap.size, 0, rfl, ?_⟩
        rw [Nat.zero_add, HV.out.done j (by omega)]
        simp [i64s, difs]
      go_wp2
      go_ret
      exact ⟨⟨_, rfl, HLV.out, HTy.out⟩, hb⟩
end Go.Proofs.YtalphknhkkcpgaaDoor
