/-
  The law's four: an Int has four bytes.
  A row of the call's own with its cells' type: it stands where bytes are appended.
  enc.differences: each number less the one ahead of it.
-/
import Derived.Test.YtjchkhdmjbojjaaDoorKPBools
import Derived.Test.YtjchkhdmjbojjaaDoorKRefBits
namespace Go.Proofs.YtjchkhdmjbojjaaDoor
open Go.RowKit
theorem plain_four : plainB 2 [⟨2, -2, ⟨#[]⟩⟩] = [254, 255, 255, 255] := by decide +kernel
set_option maxRecDepth 100000 in
set_option maxHeartbeats 800000 in
theorem four_any (w : World) (kt st : TypeId) (kp sp : Value) (hgk : w.cell? ⟨2, 0, none⟩ = some (.iface kt kp)) (hgs : w.cell? ⟨1, 0, none⟩ = some (.iface st sp)) :
    Calls Tryd.prog 6 #[] w fun e w' => e = .returned (.bool true) ∧ Below w.heap.size w w' := by
  have hb0 : Below w.heap.size w (w.alloc (.cells #[.int .i64 2, .int .i64 (-2), .string ⟨#[]⟩] 45)) := (Below.refl _ _).alloc (Nat.le_refl _) _
  have HK : Hid ((w.alloc (.cells #[.int .i64 2, .int .i64 (-2), .string ⟨#[]⟩] 45)).cell? ⟨2, 0, none⟩ = some (.iface kt kp)) := (hb0.cell (World.block_lt_of_cell? w _ hgk)).trans hgk
  have HS : Hid ((w.alloc (.cells #[.int .i64 2, .int .i64 (-2), .string ⟨#[]⟩] 45)).cell? ⟨1, 0, none⟩ = some (.iface st sp)) := (hb0.cell (World.block_lt_of_cell? w _ hgs)).trans hgs
  have HL : Hid (LiesV (w.alloc (.cells #[.int .i64 2, .int .i64 (-2), .string ⟨#[]⟩] 45)) (some ⟨w.heap.size, 0, none⟩) [⟨2, -2, ⟨#[]⟩⟩]) := fun j hj => by
    obtain rfl : j = 0 := by simp at hj; omega
    exact ⟨w.heap.size, 0, rfl, cell_alloc_at rfl rfl, cell_alloc_at rfl rfl, cell_alloc_at rfl rfl⟩
  clear hgk hgs
  go_enter Tryd.func6, Tryd.ntmps6
  go_wp2_with fail
  refine (plain_right (some ⟨w.heap.size, 0, none⟩) [⟨2, -2, ⟨#[]⟩⟩] 1 2 _ kt st kp sp HK.out HS.out (by decide) (by omega) (by omega) HL.out (fun j h => ?_) (fun j h => ?_)).mono ?_
  · obtain rfl : j = 0 := by simp at h; omega
    show OkV 2 2 (-2) 0
    unfold OkV
    omega
  · obtain rfl : j = 0 := by simp at h; omega
    simp
  rw [plain_four]
  rintro e w1 ⟨rfl, hb1⟩
  go_wp2_with fail
  go_ret
  exact ⟨rfl, hb0.trans (hb1.mono hb0.size)⟩
end Go.Proofs.YtjchkhdmjbojjaaDoor

namespace Go.Proofs.YtjchkhdmjbojjaaDoor
open Go.RowKit
/-- What the block's cells are. -/
def Typed (g ty : Nat) (w : World) : Prop := ∃ cs z, w.heap[g]? = some (.cells cs ty z)
theorem Typed.set {g ty : Nat} {w : World} (h : Typed g ty w) (i : Nat) (v : Value) : Typed g ty (w.setCell ⟨g, i, none⟩ v) := by
  obtain ⟨cs, z, h⟩ := h
  simp [Typed, World.setCell, Array.getElem?_modify, h]
theorem Typed.keep {g ty : Nat} {w w' : World} (h : Typed g ty w) (hb : Below w.heap.size w w') : Typed g ty w' := by
  obtain ⟨cs, z, h⟩ := h
  exact ⟨cs, z, blk_keep hb h⟩
theorem Typed.new (w : World) (cs : Array Value) (ty : Nat) : Typed w.heap.size ty (w.alloc (.cells cs ty)) := ⟨cs, (0, 0), heap_alloc_new w _⟩
/-- A row that is given, of a block of its own, with its cells' type. -/
def RetT (e : Ending) (w' : World) (n ty : Nat) (cs : List Value) : Prop := ∃ g, e = .returned (.slice (some ⟨g, 0, none⟩) n n) ∧ Lies w' (some ⟨g, 0, none⟩) cs ∧ Typed g ty w'
/-- Rows that are not of bytes stand. -/
def Stand (w w' : World) : Prop := ∀ g ty, ty ≠ 5 → Typed g ty w → w'.heap[g]? = w.heap[g]?
theorem Stand.refl (w : World) : Stand w w := fun _ _ _ _ => rfl
theorem Stand.typed {w w' : World} (h : Stand w w') {g ty : Nat} (hty : ty ≠ 5) (ht : Typed g ty w) : Typed g ty w' := by
  obtain ⟨cs, z, hh⟩ := ht
  exact ⟨cs, z, (h g ty hty ⟨cs, z, hh⟩).trans hh⟩
theorem Stand.trans {w w' w'' : World} (h : Stand w w') (h' : Stand w' w'') : Stand w w'' := fun g ty hty ht => (h' g ty hty (h.typed hty ht)).trans (h g ty hty ht)
theorem Stand.below {w w' : World} (hb : Below w.heap.size w w') : Stand w w' := fun g ty _ ht => by
  obtain ⟨cs, z, h⟩ := ht
  exact hb.block g (lt_of_block h)
theorem Stand.grown {w w' : World} {B n : Nat} {v : Value} {xs : List Value} (hown : w.ownsRow B 5 1 v n xs) (hg : w.grownBy w' v.ownBlock) : Stand w w' := fun g ty hty ht => by
  obtain ⟨cs, z, h⟩ := ht
  rw [ow_block hown h hty hg, h]
theorem Stand.cell {w w' : World} (h : Stand w w') {g ty : Nat} (hty : ty ≠ 5) (ht : Typed g ty w) (j : Nat) : w'.cell? ⟨g, j, none⟩ = w.cell? ⟨g, j, none⟩ := by
  have e := h g ty hty ht
  simp [World.cell?, e]
theorem Stand.lies {w w' : World} (h : Stand w w') {g ty o : Nat} {cs : List Value} (hty : ty ≠ 5) (ht : Typed g ty w) (hl : Lies w (some ⟨g, o, none⟩) cs) : Lies w' (some ⟨g, o, none⟩) cs := fun j hj => by
  obtain ⟨b, o', e, hc⟩ := hl j hj
  refine ⟨b, o', e, ?_⟩
  injection e with e
  injection e with e1 e2 _
  subst e1
  rw [h.cell hty ht]; exact hc
end Go.Proofs.YtjchkhdmjbojjaaDoor

namespace Go.Proofs.YtjchkhdmjbojjaaDoor
open Go.RowKit
theorem Tryd.infoI64 : (Tryd.prog.info? 2).map (fun i => (i.zero, i.size, i.bytes)) = some (some (.int .i64 0), 1, 8) := by kernel_rfl
theorem Tryd.underlyingI64s : Tryd.prog.underlying 78 = some (.slice 2) := by kernel_rfl
/-- The difference at a place. -/
def dif (vs : List Vl) (j : Nat) : Int := wrap64 ((vns vs).getD (j + 1) 0 - (vns vs).getD j 0)
def difs (vs : List Vl) : List Int := (List.range (vs.length - 1)).map (dif vs)
theorem difs_len (vs : List Vl) : (difs vs).length = vs.length - 1 := by simp [difs]
set_option maxRecDepth 100000 in
set_option maxHeartbeats 1600000 in
theorem differences_any (a : Option Addr) (vs : List Vl) (c : Nat) (w : World) (hl : LiesV w a vs) (h1 : 1 ≤ vs.length) (hn : vs.length ≤ 20000) :
    Calls Tryd.prog 57 #[.slice a vs.length c] w fun e w' => RetT e w' (vs.length - 1) 2 (i64s (difs vs)) ∧ Below w.heap.size w w' := by
  obtain ⟨k, hk⟩ : ∃ k, vs.length = k + 1 := ⟨vs.length - 1, by omega⟩
  obtain ⟨iv, hvi, hv0, hv1, hv2⟩ := info_parts Tryd.infoI64
  obtain ⟨M, hM⟩ : ∃ M, M = madeCells (Value.int .i64 0).cells (((k : Nat) : Int).toNat * iv.size) := ⟨_, rfl⟩
  have hMs : M.size = k := by rw [hM, size_madeCells, hv1]; simp
  have hmk : ∀ W : World, (Instr.makeSlice 78 (.int .i64 (k : Int)) (.int .i64 (k : Int))).run Tryd.prog W = .ok (.slice (some ⟨W.heap.size, 0, none⟩) k k) (W.alloc (.cells M 2)) := fun W => by
    have h := run_make (P := Tryd.prog) W 78 2 iv (.int .i64 0) Tryd.underlyingI64s hvi hv0 .i64 .i64 (k : Int) (k : Int) (by omega) (by omega) (by rw [hv2]; omega) (by omega)
    rw [← hM] at h
    simpa using h
  have HS : Hid (GRow (fun j => .int .i64 (dif vs j)) k w.heap.size w (w.alloc (.cells M 2)) 0) := GRow.start _ _ _ _ _ hMs
  have HST : Hid (Typed w.heap.size 2 (w.alloc (.cells M 2))) := Typed.new _ _ _
  have HL : Hid (LiesV w a vs) := hl
  have HK : Hid (vs.length = k + 1) := hk
  have hk2 : k ≤ 20000 := by omega
  rw [hk]
  clear hM hMs hl h1 hn hk
  go_enter Tryd.func57, Tryd.ntmps57
  go_wp2
  clear hmk
  go_loopw [11] (fun x wr => ∃ i : Nat, i ≤ k ∧ x = .int .i64 i ∧ w.heap.size < wr.heap.size ∧ Hid (GRow (fun j => .int .i64 (dif vs j)) k w.heap.size w wr i) ∧ Hid (Typed w.heap.size 2 wr)) (fun x _ => k - (intOf x).toNat)
  case atStart => exact ⟨0, Nat.zero_le _, rfl, by simp, HS, HST⟩
  case round =>
    clear HS HST
    obtain ⟨i, hik, rfl, hsl, HV, HTy⟩ := hrel
    have hb := HV.out.old
    by_cases hlt : i < k
    · obtain ⟨b, o, rfl, _, hc, _⟩ := (HL.out.keep hb) i (by rw [HK.out]; omega)
      obtain ⟨b', o', e', _, hc', _⟩ := (HL.out.keep hb) (i + 1) (by rw [HK.out]; omega)
      obtain ⟨rfl, rfl⟩ : b = b' ∧ o = o' := by simpa using e'
      clear e'
      have HD : Hid (dif vs i = wrap64 ((vs[i + 1]'(by rw [HK.out]; omega)).n - (vs[i]'(by rw [HK.out]; omega)).n)) := by
        have hi1 : i + 1 < vs.length := by rw [HK.out]; omega
        have hi0 : i < vs.length := by omega
        show _ = _
        simp [dif, vns, List.getD, hi1, hi0]
      generalize (vs[i + 1]'(by rw [HK.out]; omega)).n = x1 at *
      generalize (vs[i]'(by rw [HK.out]; omega)).n = x0 at *
      obtain ⟨y0, g0⟩ := HV.out.any i hlt
      have f0 := HV.out.froz i hlt
      go_wp2
      go_region
      all_goals go_wp2
      all_goals go_roundw
      case rel =>
        refine ⟨i + 1, by omega, by go_num, by simpa using hsl, ?_, (HTy.out.set _ _).keep (Below.refl _ _).drew⟩
        exact (HV.out.next (Nat.le_refl _) hlt (by show _ = Value.int .i64 (dif vs i); rw [HD.out])).keep (by simpa using hsl) (Below.refl _ _).drew
      case measure => simp [intOf]; omega
    · obtain rfl : i = k := by omega
      have HLV : Hid (Lies wr (some ⟨w.heap.size, 0, none⟩) (i64s (difs vs))) := fun j hj => by
        rw [i64s_len, difs_len, HK.out] at hj
        refine ⟨w.heap.size, 0, rfl, ?_⟩
        rw [Nat.zero_add, HV.out.done j (by omega)]
        simp [i64s, difs]
      go_wp2
      go_ret
      exact ⟨⟨_, rfl, HLV.out, HTy.out⟩, hb⟩
end Go.Proofs.YtjchkhdmjbojjaaDoor
