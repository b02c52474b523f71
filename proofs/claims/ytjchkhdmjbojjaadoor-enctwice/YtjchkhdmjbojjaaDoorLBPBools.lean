/-
  enc.plainBools and enc.Plain: the bytes of values.
  A row of the call's own with its cells' type: it stands where bytes are appended.
  The law's four: an Int has four bytes.
  enc.differences: each number less the one ahead of it.
-/
import Derived.Test.YtjchkhdmjbojjaaDoorLPTexts
import Derived.Test.YtjchkhdmjbojjaaDoorLBUnpack
import Derived.Test.YtjchkhdmjbojjaaDoorLBPackF
namespace Go.Proofs.YtjchkhdmjbojjaaDoor
open Go.RowKit
theorem GRow.keep {f : Nat → Value} {k g : Nat} {w wr w' : World} {i : Nat} (h : GRow f k g w wr i) (hg : g < wr.heap.size) (hb : Below wr.heap.size wr w') : GRow f k g w w' i :=
  ⟨fun j hj => (hb.cell hg).trans (h.done j hj), fun j hj => (h.any j hj).imp fun _ hv => (hb.cell hg).trans hv, fun j hj => (hb.frozen hg).trans (h.froz j hj), h.old.trans (hb.mono h.old.size)⟩
theorem room_one {n : Int} (h : n = 0 ∨ n = 1) : Room 1 n := by unfold Room; omega
/-- bitrun.Pack of numbers that have room. -/
theorem packF_right (a : Option Addr) (xs : List Int) (m c k : Nat) (w : World) (st : TypeId) (sp : Value) (hm : xs.length = m) (hn : m ≤ 20000) (hk : k ≤ 32) (hg : w.cell? ⟨1, 0, none⟩ = some (.iface st sp))
    (hr : ∀ x ∈ xs, Room k x) (ha : ∀ j (h : j < xs.length), ∃ b o, a = some ⟨b, o, none⟩ ∧ w.cell? ⟨b, o + j, none⟩ = some (.int .i64 xs[j])) :
    Calls Tryd.prog 78 #[.slice a m c, .int .i64 k] w fun e w' => e = .returned (.tuple #[.string ⟨(packed k xs).toArray⟩, .nilIface]) ∧ Below w.heap.size w w' := by
  subst hm
  refine (packF_any a xs c k w st sp hn hk hg (fun j h => ?_) ha).mono ?_
  · have h1 := hr _ (List.getElem_mem h)
    have h2 : (2 : Int) ^ k ≤ 2 ^ 32 := by
      have e : ∀ m : Nat, ((2 ^ m : Nat) : Int) = (2 : Int) ^ m := fun m => by simp
      rw [← e k, ← e 32]
      exact Int.ofNat_le.2 (Nat.pow_le_pow_right (by omega) hk)
    unfold Room at h1
    omega
  · rintro e w1 ⟨⟨rfl, _⟩ | ⟨i, p, hi, rfl, _, hN, _, _⟩, hb1⟩
    · exact ⟨rfl, hb1⟩
    · exact absurd (hr _ (List.getElem_mem hi)) hN
set_option maxHeartbeats 1600000 in
set_option maxRecDepth 100000 in
theorem plainBools_any (a : Option Addr) (vs : List Vl) (c : Nat) (w : World) (st : TypeId) (sp : Value) (hg : w.cell? ⟨1, 0, none⟩ = some (.iface st sp)) (hn : vs.length ≤ 20000) (hl : LiesV w a vs) (hx : ∀ n ∈ vns vs, n = 0 ∨ n = 1) :
    Calls Tryd.prog 44 #[.slice a vs.length c] w fun e w' => e = .returned (.tuple #[.string ⟨(packed 1 (vns vs)).toArray⟩, .nilIface]) ∧ Below w.heap.size w w' := by
  obtain ⟨i0, hi, hz0, hz1, hz2⟩ := info_parts Tryd.info3
  obtain ⟨M, hM⟩ : ∃ M, M = madeCells (Value.int .i64 0).cells (((vs.length : Nat) : Int).toNat * i0.size) := ⟨_, rfl⟩
  have hMs : M.size = vs.length := by rw [hM, size_madeCells, hz1]; simp
  have hmk : ∀ W : World, (Instr.makeSlice 49 (.int .i64 (vs.length : Int)) (.int .i64 (vs.length : Int))).run Tryd.prog W = .ok (.slice (some ⟨W.heap.size, 0, none⟩) vs.length vs.length) (W.alloc (.cells M 3)) := fun W => by
    have h := run_make (P := Tryd.prog) W 49 3 i0 (.int .i64 0) Tryd.underlying49 hi hz0 .i64 .i64 (vs.length : Int) (vs.length : Int) (by omega) (by omega) (by rw [hz2]; omega) (by omega)
    rw [← hM] at h
    simpa using h
  have HS : Hid (GRow (fun j => .int .i64 ((vns vs).getD j 0)) vs.length w.heap.size w (w.alloc (.cells M 3)) 0) := GRow.start _ _ _ _ _ hMs
  have HL : Hid (LiesV w a vs) := hl
  have HX : Hid (∀ n ∈ vns vs, n = 0 ∨ n = 1) := hx
  have HG : Hid _ := hg
  clear hl hx hM hMs hg
  go_enter Tryd.func44, Tryd.ntmps44
  go_wp2
  clear hmk
  go_loopw [12] (fun x wr => ∃ i : Nat, i ≤ vs.length ∧ x = .int .i64 i ∧ Hid (GRow (fun j => .int .i64 ((vns vs).getD j 0)) vs.length w.heap.size w wr i) ∧ w.heap.size < wr.heap.size) (fun x _ => vs.length - (intOf x).toNat)
  case atStart => exact ⟨0, Nat.zero_le _, rfl, HS, by simp⟩
  case round =>
    obtain ⟨i, hik, rfl, HO, hsz⟩ := hrel
    have hb := HO.out.old
    by_cases hlt : i < vs.length
    · obtain ⟨b, o, rfl, hc0, hc1, hc2⟩ := (HL.out.keep hb) i hlt
      have HV : Hid ((vns vs).getD i 0 = vs[i].n) := by show _ = _; simp [vns, List.getD, hlt]
      generalize vs[i] = v at *
      obtain ⟨k, n, s⟩ := v
      simp only at hc0 hc1 hc2 HV
      have HO2 : Hid _ := HO.out.keep hsz ((Below.refl wr.heap.size wr).alloc (Nat.le_refl _) (.cells #[.int .i64 k, .int .i64 n, .string s] 45))
      obtain ⟨y, hy⟩ := HO2.out.any i hlt
      have hf := HO2.out.froz i hlt
      have hq := World.block_lt_of_cell? wr _ hc0
      simp only at hq
      go_wp2
      go_roundw
      case rel => exact ⟨i + 1, by omega, by go_num, (HO.out.next (v := .int .i64 n) (Nat.le_refl _) hlt (by rw [HV.out])).keep (by simpa using hsz) ((Below.refl _ _).alloc (Nat.le_refl _) _), by simp; omega⟩
      case measure => simp [intOf]; omega
    · obtain rfl : i = vs.length := by omega
      have hg := (hb.cell (World.block_lt_of_cell? w _ HG.out)).trans HG.out
      go_wp2_with fail
      refine (packF_right (some ⟨w.heap.size, 0, none⟩) (vns vs) vs.length vs.length 1 wr st sp (vns_len vs) hn (by omega) hg (fun x hx => room_one (HX.out x hx))
        (fun j h => ⟨w.heap.size, 0, rfl, by rw [Nat.zero_add, HO.out.done j (by rw [← vns_len vs]; exact h)]; simp [List.getD, h]⟩)).mono ?_
      rintro e w1 ⟨rfl, hb1⟩
      go_wp2_with fail
      go_ret2
      exact ⟨rfl, hb.trans (hb1.mono hb.size)⟩
theorem ret_pl {a b : List UInt8} {x : Value} (h : a = b) : Ending.returned (.tuple #[.string ⟨b.toArray⟩, x]) = .returned (.tuple #[.string ⟨a.toArray⟩, x]) := by rw [h]
/-- The bytes of right values of a kind. -/
def plainB (kd : Int) (vs : List Vl) : List UInt8 := if kd = 1 then packed 1 (vns vs) else if kd = 4 then Um.txts (vss vs) else Um.nums (if kd = 2 then 4 else 8) (vns vs)
set_option maxHeartbeats 800000 in
set_option maxRecDepth 100000 in
/-- Plain of right values. -/
theorem plain_right (a : Option Addr) (vs : List Vl) (c : Nat) (kd : Int) (w : World) (kt st : TypeId) (kp sp : Value) (hgk : w.cell? ⟨2, 0, none⟩ = some (.iface kt kp)) (hgs : w.cell? ⟨1, 0, none⟩ = some (.iface st sp)) (hn : vs.length ≤ 20000) (hk : 1 ≤ kd) (hk5 : kd ≤ 5) (hl : LiesV w a vs) (hok : ∀ j (h : j < vs.length), vs[j].Ok kd)
    (hx : ∀ j (h : j < vs.length), -9223372036854775808 ≤ vs[j].n ∧ vs[j].n ≤ 9223372036854775807) :
    Calls Tryd.prog 15 #[.int .i64 kd, .slice a vs.length c] w fun e w' => e = .returned (.tuple #[.string ⟨(plainB kd vs).toArray⟩, .nilIface]) ∧ Below w.heap.size w w' := by
  have HL : Hid (LiesV w a vs) := hl
  have HK : Hid (∀ j (h : j < vs.length), vs[j].Ok kd) := hok
  have HX : Hid (∀ j (h : j < vs.length), -9223372036854775808 ≤ vs[j].n ∧ vs[j].n ≤ 9223372036854775807) := hx
  have HGK : Hid _ := hgk
  have HGS : Hid _ := hgs
  clear hl hok hx hgk hgs
  go_enter Tryd.func15, Tryd.ntmps15
  go_wp2_with fail
  refine (checkE_any a vs c kd w kt kp hn hk hk5 HGK.out HL.out).mono ?_
  rintro e w1 ⟨⟨rfl, _⟩ | ⟨i, p, hi, rfl, _, hN, _, _⟩, hb1⟩
  · have hl1 : Hid _ := HL.out.keep hb1
    by_cases h1 : kd = 1
    · subst h1
      have HE : Hid (plainB 1 vs = packed 1 (vns vs)) := rfl
      go_wp2_with fail
      refine (plainBools_any a vs c w1 st sp ((hb1.cell (World.block_lt_of_cell? w _ HGS.out)).trans HGS.out) hn hl1.out ?_).mono ?_
      · intro n hm
        obtain ⟨v, hv, rfl⟩ := List.mem_map.1 hm
        obtain ⟨j, hj, rfl⟩ := List.getElem_of_mem hv
        have := HK.out j hj
        unfold Vl.Ok OkV at this
        omega
      rintro e w2 ⟨rfl, hb2⟩
      go_wp2_with fail
      go_ret2
      exact ⟨ret_pl HE.out, hb1.trans (hb2.mono hb1.size)⟩
    · by_cases h4 : kd = 4
      · subst h4
        have HE : Hid (plainB 4 vs = Um.txts (vss vs)) := rfl
        go_wp2_with fail
        refine (plainTexts_any a vs c w1 hn hl1.out ?_).mono ?_
        · intro s hm
          obtain ⟨v, hv, rfl⟩ := List.mem_map.1 hm
          obtain ⟨j, hj, rfl⟩ := List.getElem_of_mem hv
          have h := HK.out j hj
          unfold Vl.Ok OkV at h
          rw [Array.length_toList]
          show vs[j].s.size ≤ 100
          omega
        rintro e w2 ⟨rfl, hb2⟩
        go_wp2_with fail
        go_ret2
        exact ⟨ret_pl HE.out, hb1.trans (hb2.mono hb1.size)⟩
      · by_cases h2 : kd = 2
        · subst h2
          have HE : Hid (plainB 2 vs = Um.nums 4 (vns vs)) := rfl
          go_wp2_with fail
          refine (sizeOf_int _).mono ?_
          rintro e w2 ⟨rfl, hw⟩
          obtain rfl := hw.symm
          go_wp2_with fail
          refine (plainNumbers_any a vs c 4 _ hn (by omega) hl1.out HX.out).mono ?_
          rintro e w2 ⟨rfl, hb2⟩
          go_wp2_with fail
          go_ret2
          exact ⟨ret_pl HE.out, hb1.trans (hb2.mono hb1.size)⟩
        · have HE : Hid (plainB kd vs = Um.nums 8 (vns vs)) := by show _ = _; simp [plainB, h1, h4, h2]
          go_wp2_with fail
          refine (sizeOf_long _ _ h2).mono ?_
          rintro e w2 ⟨rfl, hw⟩
          obtain rfl := hw.symm
          go_wp2_with fail
          refine (plainNumbers_any a vs c 8 _ hn (by omega) hl1.out HX.out).mono ?_
          rintro e w2 ⟨rfl, hb2⟩
          go_wp2_with fail
          go_ret2
          exact ⟨ret_pl HE.out, hb1.trans (hb2.mono hb1.size)⟩
  · exact absurd (HK.out i hi) hN
set_option maxRecDepth 100000 in
set_option maxHeartbeats 800000 in
/-- Plain of values that are not of the kind. -/
theorem plain_fault (a : Option Addr) (vs : List Vl) (c : Nat) (kd : Int) (w : World) (kt : TypeId) (kp : Value) (hgk : w.cell? ⟨2, 0, none⟩ = some (.iface kt kp)) (hn : vs.length ≤ 20000) (hk : 1 ≤ kd) (hk5 : kd ≤ 5) (hl : LiesV w a vs) (i : Nat) (hi : i < vs.length) (hbad : ¬ vs[i].Ok kd) (hfirst : ∀ j (h : j < vs.length), j < i → vs[j].Ok kd) :
    Calls Tryd.prog 15 #[.int .i64 kd, .slice a vs.length c] w fun e w' => (∃ p, e = .returned (.tuple #[.string ⟨#[]⟩, .iface 84 (.pointer (some ⟨p, 0, none⟩))]) ∧ w'.cell? ⟨p, 0, none⟩ = some (.int .i64 i) ∧ w'.cell? ⟨p, 1, none⟩ = some (.iface kt kp)) ∧ Below w.heap.size w w' := by
  have HL : Hid (LiesV w a vs) := hl
  have HB : Hid (¬ vs[i].Ok kd) := hbad
  have HF : Hid (∀ j (h : j < vs.length), j < i → vs[j].Ok kd) := hfirst
  have HGK : Hid _ := hgk
  clear hl hbad hfirst hgk
  go_enter Tryd.func15, Tryd.ntmps15
  go_wp2_with fail
  refine (checkE_any a vs c kd w kt kp hn hk hk5 HGK.out HL.out).mono ?_
  rintro e w1 ⟨⟨rfl, hall⟩ | ⟨i2, p, hi2, rfl, hF2, hN2, hp0, hp1⟩, hb1⟩
  · exact absurd (hall i hi) HB.out
  · have hii : i2 = i := by
      by_cases hlt : i2 < i
      · exact absurd (HF.out i2 hi2 hlt) hN2
      · by_cases hgt : i < i2
        · exact absurd (hF2 i hi hgt) HB.out
        · omega
    subst hii
    clear hF2 hN2
    have H0 : Hid _ := hp0
    have H1 : Hid _ := hp1
    clear hp0 hp1
    go_wp2_with fail
    go_ret2
    exact ⟨⟨p, rfl, H0.out, H1.out⟩, hb1⟩
end Go.Proofs.YtjchkhdmjbojjaaDoor

namespace Go.Proofs.YtjchkhdmjbojjaaDoor
open Go.RowKit
/-- What the block's cells are. -/
def Typed (g ty : Nat) (w : World) : Prop := ∃ cs z, w.heap[g]? = some (.cells cs ty z)
theorem Typed.set {g ty : Nat} {w : World} (h : Typed g ty w) (i : Nat) (v : Value) : Typed g ty (w.setCell ⟨g, i, none⟩ v) := by
  obtain ⟨cs, z, h⟩ := h
  simp [Typed, World.setCell, Array.getElem?_modify, h]
theorem Typed.keep {g ty : Nat} {w w' : World} (h : Typed g ty w) (hb : Below w.heap.size w w') : Typed g ty w' := by
  obtain ⟨cs, z, h⟩ := h
  exact ⟨cs, z, blk_keep hb h⟩
theorem Typed.new (w : World) (cs : Array Value) (ty : Nat) : Typed w.heap.size ty (w.alloc (.cells cs ty)) := ⟨cs, (0, 0), heap_alloc_new w _⟩
/-- A row that is given, of a block of its own, with its cells' type. -/
def RetT (e : Ending) (w' : World) (n ty : Nat) (cs : List Value) : Prop := ∃ g, e = .returned (.slice (some ⟨g, 0, none⟩) n n) ∧ Lies w' (some ⟨g, 0, none⟩) cs ∧ Typed g ty w'
/-- Rows that are not of bytes stand. -/
def Stand (w w' : World) : Prop := ∀ g ty, ty ≠ 5 → Typed g ty w → w'.heap[g]? = w.heap[g]?
theorem Stand.refl (w : World) : Stand w w := fun _ _ _ _ => rfl
theorem Stand.typed {w w' : World} (h : Stand w w') {g ty : Nat} (hty : ty ≠ 5) (ht : Typed g ty w) : Typed g ty w' := by
  obtain ⟨cs, z, hh⟩ := ht
  exact ⟨cs, z, (h g ty hty ⟨cs, z, hh⟩).trans hh⟩
theorem Stand.trans {w w' w'' : World} (h : Stand w w') (h' : Stand w' w'') : Stand w w'' := fun g ty hty ht => (h' g ty hty (h.typed hty ht)).trans (h g ty hty ht)
theorem Stand.below {w w' : World} (hb : Below w.heap.size w w') : Stand w w' := fun g ty _ ht => by
  obtain ⟨cs, z, h⟩ := ht
  exact hb.block g (lt_of_block h)
theorem Stand.grown {w w' : World} {B n : Nat} {v : Value} {xs : List Value} (hown : w.ownsRow B 5 1 v n xs) (hg : w.grownBy w' v.ownBlock) : Stand w w' := fun g ty hty ht => by
  obtain ⟨cs, z, h⟩ := ht
  rw [ow_block hown h hty hg, h]
theorem Stand.cell {w w' : World} (h : Stand w w') {g ty : Nat} (hty : ty ≠ 5) (ht : Typed g ty w) (j : Nat) : w'.cell? ⟨g, j, none⟩ = w.cell? ⟨g, j, none⟩ := by
  have e := h g ty hty ht
  simp [World.cell?, e]
theorem Stand.lies {w w' : World} (h : Stand w w') {g ty o : Nat} {cs : List Value} (hty : ty ≠ 5) (ht : Typed g ty w) (hl : Lies w (some ⟨g, o, none⟩) cs) : Lies w' (some ⟨g, o, none⟩) cs := fun j hj => by
  obtain ⟨b, o', e, hc⟩ := hl j hj
  refine ⟨b, o', e, ?_⟩
  injection e with e
  injection e with e1 e2 _
  subst e1
  rw [h.cell hty ht]; exact hc
end Go.Proofs.YtjchkhdmjbojjaaDoor

namespace Go.Proofs.YtjchkhdmjbojjaaDoor
open Go.RowKit
theorem plain_four : plainB 2 [⟨2, -2, ⟨#[]⟩⟩] = [254, 255, 255, 255] := by decide +kernel
set_option maxRecDepth 100000 in
set_option maxHeartbeats 800000 in
theorem four_any (w : World) (kt st : TypeId) (kp sp : Value) (hgk : w.cell? ⟨2, 0, none⟩ = some (.iface kt kp)) (hgs : w.cell? ⟨1, 0, none⟩ = some (.iface st sp)) :
    Calls Tryd.prog 6 #[] w fun e w' => e = .returned (.bool true) ∧ Below w.heap.size w w' := by
  have hb0 : Below w.heap.size w (w.alloc (.cells #[.int .i64 2, .int .i64 (-2), .string ⟨#[]⟩] 45)) := (Below.refl _ _).alloc (Nat.le_refl _) _
  have HK : Hid ((w.alloc (.cells #[.int .i64 2, .int .i64 (-2), .string ⟨#[]⟩] 45)).cell? ⟨2, 0, none⟩ = some (.iface kt kp)) := (hb0.cell (World.block_lt_of_cell? w _ hgk)).trans hgk
  have HS : Hid ((w.alloc (.cells #[.int .i64 2, .int .i64 (-2), .string ⟨#[]⟩] 45)).cell? ⟨1, 0, none⟩ = some (.iface st sp)) := (hb0.cell (World.block_lt_of_cell? w _ hgs)).trans hgs
  have HL : Hid (LiesV (w.alloc (.cells #[.int .i64 2, .int .i64 (-2), .string ⟨#[]⟩] 45)) (some ⟨w.heap.size, 0, none⟩) [⟨2, -2, ⟨#[]⟩⟩]) := fun j hj => by
    obtain rfl : j = 0 := by simp at hj; omega
    exact ⟨w.heap.size, 0, rfl, cell_alloc_at rfl rfl, cell_alloc_at rfl rfl, cell_alloc_at rfl rfl⟩
  clear hgk hgs
  go_enter Tryd.func6, Tryd.ntmps6
  go_wp2_with fail
  refine (plain_right (some ⟨w.heap.size, 0, none⟩) [⟨2, -2, ⟨#[]⟩⟩] 1 2 _ kt st kp sp HK.out HS.out (by decide) (by omega) (by omega) HL.out (fun j h => ?_) (fun j h => ?_)).mono ?_
  · obtain rfl : j = 0 := by simp at h; omega
    show OkV 2 2 (-2) 0
    unfold OkV
    omega
  · obtain rfl : j = 0 := by simp at h; omega
    simp
  rw [plain_four]
  rintro e w1 ⟨rfl, hb1⟩
  go_wp2_with fail
  go_ret
  exact ⟨rfl, hb0.trans (hb1.mono hb0.size)⟩
end Go.Proofs.YtjchkhdmjbojjaaDoor

namespace Go.Proofs.YtjchkhdmjbojjaaDoor
open Go.RowKit
theorem Tryd.infoI64 : (Tryd.prog.info? 2).map (fun i => (i.zero, i.size, i.bytes)) = some (some (.int .i64 0), 1, 8) := by kernel_rfl
theorem Tryd.underlyingI64s : Tryd.prog.underlying 78 = some (.slice 2) := by kernel_rfl
/-- The difference at a place. -/
def dif (vs : List Vl) (j : Nat) : Int := wrap64 ((vns vs).getD (j + 1) 0 - (vns vs).getD j 0)
def difs (vs : List Vl) : List Int := (List.range (vs.length - 1)).map (dif vs)
theorem difs_len (vs : List Vl) : (difs vs).length = vs.length - 1 := by simp [difs]
set_option maxRecDepth 100000 in
set_option maxHeartbeats 1600000 in
theorem differences_any (a : Option Addr) (vs : List Vl) (c : Nat) (w : World) (hl : LiesV w a vs) (h1 : 1 ≤ vs.length) (hn : vs.length ≤ 20000) :
    Calls Tryd.prog 57 #[.slice a vs.length c] w fun e w' => RetT e w' (vs.length - 1) 2 (i64s (difs vs)) ∧ Below w.heap.size w w' := by
  obtain ⟨k, hk⟩ : ∃ k, vs.length = k + 1 := ⟨vs.length - 1, by omega⟩
  obtain ⟨iv, hvi, hv0, hv1, hv2⟩ := info_parts Tryd.infoI64
  obtain ⟨M, hM⟩ : ∃ M, M = madeCells (Value.int .i64 0).cells (((k : Nat) : Int).toNat * iv.size) := ⟨_, rfl⟩
  have hMs : M.size = k := by rw [hM, size_madeCells, hv1]; simp
  have hmk : ∀ W : World, (Instr.makeSlice 78 (.int .i64 (k : Int)) (.int .i64 (k : Int))).run Tryd.prog W = .ok (.slice (some ⟨W.heap.size, 0, none⟩) k k) (W.alloc (.cells M 2)) := fun W => by
    have h := run_make (P := Tryd.prog) W 78 2 iv (.int .i64 0) Tryd.underlyingI64s hvi hv0 .i64 .i64 (k : Int) (k : Int) (by omega) (by omega) (by rw [hv2]; omega) (by omega)
    rw [← hM] at h
    simpa using h
  have HS : Hid (GRow (fun j => .int .i64 (dif vs j)) k w.heap.size w (w.alloc (.cells M 2)) 0) := GRow.start _ _ _ _ _ hMs
  have HST : Hid (Typed w.heap.size 2 (w.alloc (.cells M 2))) := Typed.new _ _ _
  have HL : Hid (LiesV w a vs) := hl
  have HK : Hid (vs.length = k + 1) := hk
  have hk2 : k ≤ 20000 := by omega
  rw [hk]
  clear hM hMs hl h1 hn hk
  go_enter Tryd.func57, Tryd.ntmps57
  go_wp2
  clear hmk
  go_loopw [11] (fun x wr => ∃ i : Nat, i ≤ k ∧ x = .int .i64 i ∧ w.heap.size < wr.heap.size ∧ Hid (GRow (fun j => .int .i64 (dif vs j)) k w.heap.size w wr i) ∧ Hid (Typed w.heap.size 2 wr)) (fun x _ => k - (intOf x).toNat)
  case atStart => exact ⟨0, Nat.zero_le _, rfl, by simp, HS, HST⟩
  case round =>
    clear HS HST
    obtain ⟨i, hik, rfl, hsl, HV, HTy⟩ := hrel
    have hb := HV.out.old
    by_cases hlt : i < k
    · obtain ⟨b, o, rfl, _, hc, _⟩ := (HL.out.keep hb) i (by rw [HK.out]; omega)
      obtain ⟨b', o', e', _, hc', _⟩ := (HL.out.keep hb) (i + 1) (by rw [HK.out]; omega)
      obtain ⟨rfl, rfl⟩ : b = b' ∧ o = o' := by simpa using e'
      clear e'
      have HD : Hid (dif vs i = wrap64 ((vs[i + 1]'(by rw [HK.out]; omega)).n - (vs[i]'(by rw [HK.out]; omega)).n)) := by
        have hi1 : i + 1 < vs.length := by rw [HK.out]; omega
        have hi0 : i < vs.length := by omega
        show _ = _
        simp [dif, vns, List.getD, hi1, hi0]
      generalize (vs[i + 1]'(by rw [HK.out]; omega)).n = x1 at *
      generalize (vs[i]'(by rw [HK.out]; omega)).n = x0 at *
      obtain ⟨y0, g0⟩ := HV.out.any i hlt
      have f0 := HV.out.froz i hlt
      go_wp2
      go_region
      all_goals go_wp2
      all_goals go_roundw
      case rel =>
        refine ⟨i + 1, by omega, by go_num, by simpa using hsl, ?_, (HTy.out.set _ _).keep (Below.refl _ _).drew⟩
        exact (HV.out.next (Nat.le_refl _) hlt (by show _ = Value.int .i64 (dif vs i); rw [HD.out])).keep (by simpa using hsl) (Below.refl _ _).drew
      case measure => simp [intOf]; omega
    · obtain rfl : i = k := by omega
      have HLV : Hid (Lies wr (some ⟨w.heap.size, 0, none⟩) (i64s (difs vs))) := fun j hj => by
        rw [i64s_len, difs_len, HK.out] at hj
        refine ⟨w.heap.size, 0, rfl, ?_⟩
        rw [Nat.zero_add, HV.out.done j (by omega)]
        simp [i64s, difs]
      go_wp2
      go_ret
      exact ⟨⟨_, rfl, HLV.out, HTy.out⟩, hb⟩
end Go.Proofs.YtjchkhdmjbojjaaDoor
