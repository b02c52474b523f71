/-
  enc.sizeOf and enc.plainNumbers: the bytes of numbers.
  enc.plainTexts and enc.plainBools: the bytes of texts; of numbers 0 or 1.
  enc.plainBools and enc.Plain: the bytes of values.
  The law's four: an Int has four bytes.
-/
import Derived.Test.YtbklaikniocihaaDoorDVC
import Derived.Test.YtbklaikniocihaaDoorDMA
import Derived.Laws.MakeOwn
import Derived.Test.YtbklaikniocihaaDoorDOwn
import Derived.Test.YtbklaikniocihaaDoorDPackF
import Derived.Test.YtbklaikniocihaaDoorDRefBits
import Derived.Test.YtbklaikniocihaaDoorDRd2
import Derived.Test.YtbklaikniocihaaDoorDUnpack
namespace Go.Proofs.YtbklaikniocihaaDoor
open Go.RowKit
/-- The numbers of values. -/
def vns (vs : List Vl) : List Int := vs.map (·.n)
theorem vns_len (vs : List Vl) : (vns vs).length = vs.length := by simp [vns]
/-- The texts of values. -/
def vss (vs : List Vl) : List (List UInt8) := vs.map (·.s.data.toList)
theorem vss_len (vs : List Vl) : (vss vs).length = vs.length := by simp [vss]
theorem sizeOf_int (w : World) : Calls Tryd.prog 34 #[.int .i64 2] w fun e w' => e = .returned (.int .i64 4) ∧ w' = w := by
  go_enter Tryd.func34, Tryd.ntmps34
  go_wp2
  go_ret
  exact ⟨rfl, rfl⟩
theorem sizeOf_long (k : Int) (w : World) (h : ¬ k = 2) : Calls Tryd.prog 34 #[.int .i64 k] w fun e w' => e = .returned (.int .i64 8) ∧ w' = w := by
  go_enter Tryd.func34, Tryd.ntmps34
  go_wp2
  go_ret
  exact ⟨rfl, rfl⟩
theorem own_num_snoc {w : World} {base e N q : Nat} {v : Value} {n : Int} {l : List UInt8} (hn : n = (Um.by_ N q : Nat)) (h : w.ownsRow base e 1 v (l.length + q + 1) (cellsOf (l ++ Um.lit N q) ++ [.int .u8 n])) : w.ownsRow base e 1 v (l.length + (q + 1)) (cellsOf (l ++ Um.lit N (q + 1))) := by
  have hlt := Um.by_lt N q
  rw [Um.lit_succ, ← List.append_assoc, cells_snoc, Um.bt_int (by omega) (by omega), ← hn]; exact h
set_option maxHeartbeats 1600000 in
set_option maxRecDepth 100000 in
theorem plainNumbers_any (a : Option Addr) (vs : List Vl) (c sz : Nat) (w : World) (hn : vs.length ≤ 20000) (hsz : sz ≤ 8) (hl : LiesV w a vs) (hx : ∀ j (h : j < vs.length), -9223372036854775808 ≤ vs[j].n ∧ vs[j].n ≤ 9223372036854775807) :
    Calls Tryd.prog 33 #[.slice a vs.length c, .int .i64 sz] w fun e w' => e = .returned (.string ⟨(Um.nums sz (vns vs)).toArray⟩) ∧ Below w.heap.size w w' := by
  obtain ⟨i0, hi, hz0, hz1, hz2⟩ := info_parts Tryd.info5
  have hcap : sz * vs.length ≤ 8 * 20000 := Nat.mul_le_mul hsz hn
  obtain ⟨cp, HC⟩ : ∃ cp : Nat, Hid (cp = sz * vs.length) := ⟨_, rfl⟩
  have hci : (sz : Int) * (vs.length : Int) = (cp : Int) := by rw [HC.out]; simp
  have hcp : cp ≤ 160000 := by rw [HC.out]; omega
  obtain ⟨M, hM⟩ : ∃ M, M = madeCells (Value.int .u8 0).cells (((cp : Nat) : Int).toNat * i0.size) := ⟨_, rfl⟩
  have hMs : M.size = cp := by rw [hM, size_madeCells, hz1]; simp
  have hmk : ∀ W : World, (Instr.makeSlice 82 (.int .i64 0) (.int .i64 (cp : Int))).run Tryd.prog W = .ok (.slice (some ⟨W.heap.size, 0, none⟩) 0 cp) (W.alloc (.cells M 5)) := fun W => by
    have h := run_make (P := Tryd.prog) W 82 5 i0 (.int .u8 0) Tryd.underlying82 hi hz0 .i64 .i64 0 (cp : Int) (by omega) (by omega) (by rw [hz2]; omega) (by omega)
    rw [← hM] at h
    simpa using h
  have HS : Hid ((w.alloc (.cells M 5)).ownsRow w.heap.size 5 1 (.slice (some ⟨w.heap.size, 0, none⟩) 0 cp) 0 (cellsOf [])) := World.ownsRow_made w M cp (Nat.le_refl _) (by unfold maxLen; omega) (by omega)
  have HL : Hid (LiesV w a vs) := hl
  have HX : Hid (∀ j (h : j < vs.length), -9223372036854775808 ≤ vs[j].n ∧ vs[j].n ≤ 9223372036854775807) := hx
  clear hM hMs hl hx hcap
  go_enter Tryd.func33, Tryd.ntmps33
  go_wp2
  clear hmk
  go_loopw [5, 16] (fun b x wr => ∃ i : Nat, i ≤ vs.length ∧ x = .int .i64 i ∧ Hid (wr.ownsRow w.heap.size 5 1 b (Um.nums sz ((vns vs).take i)).length (cellsOf (Um.nums sz ((vns vs).take i)))) ∧ Below w.heap.size w wr) (fun _ x _ => vs.length - (intOf x).toNat)
  case atStart => exact ⟨0, Nat.zero_le _, rfl, HS, (Below.refl _ _).alloc (Nat.le_refl _) _⟩
  case round =>
    obtain ⟨i, hik, rfl, HO, hb⟩ := hrel
    generalize hwr0 : wr = wr0 at *
    by_cases hlt : i < vs.length
    · obtain ⟨b, o, rfl, hc0, hc1, hc2⟩ := (HL.out.keep hb) i hlt
      have hr := HX.out i hlt
      have HN : Hid (Um.nums sz ((vns vs).take (i + 1)) = Um.nums sz ((vns vs).take i) ++ Um.lit (Um.u64 vs[i].n) sz) := by
        show _ = _
        rw [Um.nums_take sz (vns vs) i (by rw [vns_len]; exact hlt)]
        simp [vns]
      have hnl := Um.nums_len sz ((vns vs).take i)
      have hnl2 : (Um.nums sz ((vns vs).take i)).length ≤ 8 * 20000 := by
        rw [hnl]; refine Nat.mul_le_mul hsz ?_; rw [List.length_take]; omega
      clear hnl
      generalize Um.nums sz ((vns vs).take i) = l at *
      generalize vs[i] = v at *
      obtain ⟨k, n, s⟩ := v
      simp only at hc0 hc1 hc2 hr
      simp only at HN
      go_wp2
      clear hc0 hc1 hc2
      go_loopw [5, 21] (fun b x wr => ∃ j : Nat, j ≤ sz ∧ x = .int .i64 j ∧ Hid (wr.ownsRow w.heap.size 5 1 b (l.length + j) (cellsOf (l ++ Um.lit (Um.u64 n) j))) ∧ Hid (wr.heap[wr0.heap.size]? = some (.cells #[.int .i64 k, .int .i64 n, .string s] 50 (0, 0))) ∧ Below w.heap.size w wr) (fun _ x _ => sz - (intOf x).toNat)
      case atStart =>
        refine ⟨0, Nat.zero_le _, rfl, ?_, heap_alloc_new wr0 _, hb.alloc hb.size _⟩
        have h0 := HO.out.alloc (.cells #[.int .i64 k, .int .i64 n, .string s] 50)
        show World.ownsRow _ _ _ _ _ _ _
        rw [show Um.lit (Um.u64 n) 0 = [] from rfl, List.append_nil]
        exact h0
      case round =>
        clear HO hb hwr0
        obtain ⟨j, hjz, rfl, HO, HB, hb⟩ := hrel
        obtain ⟨hq0, hq1, hq2⟩ := row_three HB.out
        by_cases hj : j < sz
        · have hby := Um.by_u64 n j (by omega)
          have hown := HO.out
          have hll : (l ++ Um.lit (Um.u64 n) j).length = l.length + j := by rw [List.length_append, Um.lit_len]
          have HQ : Hid _ := hll
          clear hll
          go_wp2_with (at_builtin; refine wpList_append_own _ rfl _ _ 82 rfl w.heap.size 5 i0 (.int .u8 0) 1 1 Tryd.underlying82 hi hz0 hz1 hz2 rfl (by decide) _ _ _ rfl (hown.alloc _) ⟨wr.heap.size, 0, none⟩ 1 1 [.int .u8 (Um.by_ (Um.u64 n) j : Nat)] rfl rfl (cell_one_new _ _ _) (by intro u hu; simp at hu; subst hu; rfl) (by unfold maxLen; omega) (by omega) (by have := hb.size; simp; omega) ?_; intro v' w1 hown' hgrow _)
          have hown2 := own_num_snoc rfl hown'
          have hb2 := below_app hb (Nat.le_refl _) hown hgrow
          have HB2 : Hid (w1.heap[wr0.heap.size]? = some (.cells #[.int .i64 k, .int .i64 n, .string s] 50 (0, 0))) := ow_block (hown.alloc _) (blk_alloc HB.out) (by decide) hgrow
          clear hown hown' hgrow hq0 hq1 hq2 hby
          go_wp2
          go_roundw
          case rel => exact ⟨j + 1, by omega, by go_num, hown2, HB2, hb2⟩
          case measure => simp [intOf]; omega
        · obtain rfl : j = sz := by omega
          have ho := HO.out
          have e : l.length + j = (l ++ Um.lit (Um.u64 n) j).length := by rw [List.length_append, Um.lit_len]
          rw [e, ← HN.out] at ho
          clear e
          go_wp2
          go_roundw
          case rel => exact ⟨i + 1, by omega, by go_num, ho, hb⟩
          case measure => simp [intOf]; omega
    · obtain rfl : i = vs.length := by omega
      have ho := HO.out
      rw [← vns_len, List.take_length] at ho
      have hcv := ow_conv rfl ho
      go_wp2
      go_ret
      exact ⟨rfl, hb⟩
end Go.Proofs.YtbklaikniocihaaDoor

namespace Go.Proofs.YtbklaikniocihaaDoor
open Go.RowKit
theorem text_bytes (s : ByteArray) : ((⟨(Um.uv s.size).toArray⟩ : ByteArray) ++ s).data.toList = Um.txt s.data.toList := by
  rw [ByteArray.data_append, Array.toList_append]
  show _ = Um.uv s.data.toList.length ++ _
  rw [Array.length_toList]; rfl
set_option maxHeartbeats 1600000 in
set_option maxRecDepth 100000 in
theorem plainTexts_any (a : Option Addr) (vs : List Vl) (c : Nat) (w : World) (hn : vs.length ≤ 20000) (hl : LiesV w a vs) (hx : ∀ s ∈ vss vs, s.length ≤ 100) :
    Calls Tryd.prog 32 #[.slice a vs.length c] w fun e w' => e = .returned (.string ⟨(Um.txts (vss vs)).toArray⟩) ∧ Below w.heap.size w w' := by
  obtain ⟨i0, hi, hz0, hz1, hz2⟩ := info_parts Tryd.info5
  have HL : Hid (LiesV w a vs) := hl
  have HX : Hid (∀ s ∈ vss vs, s.length ≤ 100) := hx
  clear hl hx
  go_enter Tryd.func32, Tryd.ntmps32
  go_wp2
  go_loopw [3, 8] (fun b x wr => ∃ i : Nat, i ≤ vs.length ∧ x = .int .i64 i ∧ Hid (wr.ownsRow w.heap.size 5 1 b (Um.txts ((vss vs).take i)).length (cellsOf (Um.txts ((vss vs).take i)))) ∧ Below w.heap.size w wr) (fun _ x _ => vs.length - (intOf x).toNat)
  case atStart => exact ⟨0, Nat.zero_le _, rfl, World.ownsRow_nil w w.heap.size 5 1, Below.refl _ _⟩
  case round =>
    obtain ⟨i, hik, rfl, HO, hb⟩ := hrel
    generalize hwr0 : wr = wr0 at *
    by_cases hlt : i < vs.length
    · obtain ⟨b, o, rfl, hc0, hc1, hc2⟩ := (HL.out.keep hb) i hlt
      have hlv : i < (vss vs).length := by rw [vss_len]; exact hlt
      have HN : Hid (Um.txts ((vss vs).take (i + 1)) = Um.txts ((vss vs).take i) ++ Um.txt vs[i].s.data.toList) := by
        show _ = _
        rw [Um.txts_take (vss vs) i hlv]
        simp [vss]
      have hsl : vs[i].s.size ≤ 100 := by
        have h := HX.out (vss vs)[i] (List.getElem_mem hlv)
        simpa [vss] using h
      have hnl : (Um.txts ((vss vs).take i)).length ≤ 110 * 20000 := by
        refine Nat.le_trans (Um.txts_len _ (fun s hs => HX.out s (List.mem_of_mem_take hs))) (Nat.mul_le_mul_left _ ?_)
        rw [List.length_take]; omega
      have htl := Um.txt_len vs[i].s.data.toList (by rw [Array.length_toList]; show vs[i].s.size < _; omega)
      rw [Array.length_toList] at htl
      clear hlv
      generalize Um.txts ((vss vs).take i) = l at *
      generalize vs[i] = v at *
      obtain ⟨k, n, s⟩ := v
      simp only at hc0 hc1 hc2 HN hsl htl
      change (Um.txt s.data.toList).length ≤ s.size + 10 at htl
      go_wp2_with fail
      refine (text_any s _ (by omega)).mono ?_
      rintro e w1 ⟨rfl, hb1⟩
      have hob := hb.alloc hb.size (.cells #[.int .i64 k, .int .i64 n, .string s] 50)
      have hb2 := hob.trans (hb1.mono hob.size)
      have hown := ow_kept (HO.out.alloc (.cells #[.int .i64 k, .int .i64 n, .string s] 50)) hb1
      have htb := text_bytes s
      generalize (⟨(Um.uv s.size).toArray⟩ : ByteArray) ++ s = t at htb
      have hts : t.size = (Um.txt s.data.toList).length := by rw [← htb, Array.length_toList]; rfl
      obtain ⟨v', w', hr, hown', hgrow, _⟩ := Lib.run_append_own_string (P := Tryd.prog) w1 w.heap.size 82 9 82 5 i0 Tryd.underlying82 Tryd.underlying9 hi hz0 hz1 hz2 _ _ _ hown t (by unfold maxLen; omega) (by omega) hb2.size
      have hown2 := ow_str hown'
      rw [htb, ← HN.out] at hown2
      have hb3 := below_grown hb2 (Nat.le_refl _) hown hgrow
      clear hown hown' hgrow hts htb hc0 hc1 hc2
      go_wp2_with (at_builtin; refine Lib.wpList_append_run _ rfl _ _ 82 9 rfl _ _ rfl rfl _ _ hr ?_)
      go_roundw
      case rel => exact ⟨i + 1, by omega, by go_num, hown2, hb3⟩
      case measure => simp [intOf]; omega
    · obtain rfl : i = vs.length := by omega
      have ho := HO.out
      rw [← vss_len, List.take_length] at ho
      have hcv := ow_conv rfl ho
      go_wp2
      go_ret
      exact ⟨rfl, hb⟩
end Go.Proofs.YtbklaikniocihaaDoor

namespace Go.Proofs.YtbklaikniocihaaDoor
open Go.RowKit
theorem GRow.keep {f : Nat → Value} {k g : Nat} {w wr w' : World} {i : Nat} (h : GRow f k g w wr i) (hg : g < wr.heap.size) (hb : Below wr.heap.size wr w') : GRow f k g w w' i :=
  ⟨fun j hj => (hb.cell hg).trans (h.done j hj), fun j hj => (h.any j hj).imp fun _ hv => (hb.cell hg).trans hv, fun j hj => (hb.frozen hg).trans (h.froz j hj), h.old.trans (hb.mono h.old.size)⟩
theorem room_one {n : Int} (h : n = 0 ∨ n = 1) : Room 1 n := by unfold Room; omega
/-- bitrun.Pack of numbers that have room. -/
theorem packF_right (a : Option Addr) (xs : List Int) (m c k : Nat) (w : World) (st : TypeId) (sp : Value) (hm : xs.length = m) (hn : m ≤ 20000) (hk : k ≤ 32) (hg : w.cell? ⟨1, 0, none⟩ = some (.iface st sp))
    (hr : ∀ x ∈ xs, Room k x) (ha : ∀ j (h : j < xs.length), ∃ b o, a = some ⟨b, o, none⟩ ∧ w.cell? ⟨b, o + j, none⟩ = some (.int .i64 xs[j])) :
    Calls Tryd.prog 71 #[.slice a m c, .int .i64 k] w fun e w' => e = .returned (.tuple #[.string ⟨(packed k xs).toArray⟩, .nilIface]) ∧ Below w.heap.size w w' := by
  subst hm
  refine (packF_any a xs c k w st sp hn hk hg (fun j h => ?_) ha).mono ?_
  · have h1 := hr _ (List.getElem_mem h)
    have h2 : (2 : Int) ^ k ≤ 2 ^ 32 := by
      have e : ∀ m : Nat, ((2 ^ m : Nat) : Int) = (2 : Int) ^ m := fun m => by simp
      rw [← e k, ← e 32]
      exact Int.ofNat_le.2 (Nat.pow_le_pow_right (by omega) hk)
    unfold Room at h1
    omega
  · rintro e w1 ⟨⟨rfl, _⟩ | ⟨i, p, hi, rfl, _, hN, _, _⟩, hb1⟩
    · exact ⟨rfl, hb1⟩
    · exact absurd (hr _ (List.getElem_mem hi)) hN
set_option maxHeartbeats 1600000 in
set_option maxRecDepth 100000 in
theorem plainBools_any (a : Option Addr) (vs : List Vl) (c : Nat) (w : World) (st : TypeId) (sp : Value) (hg : w.cell? ⟨1, 0, none⟩ = some (.iface st sp)) (hn : vs.length ≤ 20000) (hl : LiesV w a vs) (hx : ∀ n ∈ vns vs, n = 0 ∨ n = 1) :
    Calls Tryd.prog 31 #[.slice a vs.length c] w fun e w' => e = .returned (.tuple #[.string ⟨(packed 1 (vns vs)).toArray⟩, .nilIface]) ∧ Below w.heap.size w w' := by
  obtain ⟨i0, hi, hz0, hz1, hz2⟩ := info_parts Tryd.info3
  obtain ⟨M, hM⟩ : ∃ M, M = madeCells (Value.int .i64 0).cells (((vs.length : Nat) : Int).toNat * i0.size) := ⟨_, rfl⟩
  have hMs : M.size = vs.length := by rw [hM, size_madeCells, hz1]; simp
  have hmk : ∀ W : World, (Instr.makeSlice 65 (.int .i64 (vs.length : Int)) (.int .i64 (vs.length : Int))).run Tryd.prog W = .ok (.slice (some ⟨W.heap.size, 0, none⟩) vs.length vs.length) (W.alloc (.cells M 3)) := fun W => by
    have h := run_make (P := Tryd.prog) W 65 3 i0 (.int .i64 0) Tryd.underlying65 hi hz0 .i64 .i64 (vs.length : Int) (vs.length : Int) (by omega) (by omega) (by rw [hz2]; omega) (by omega)
    rw [← hM] at h
    simpa using h
  have HS : Hid (GRow (fun j => .int .i64 ((vns vs).getD j 0)) vs.length w.heap.size w (w.alloc (.cells M 3)) 0) := GRow.start _ _ _ _ _ hMs
  have HL : Hid (LiesV w a vs) := hl
  have HX : Hid (∀ n ∈ vns vs, n = 0 ∨ n = 1) := hx
  have HG : Hid _ := hg
  clear hl hx hM hMs hg
  go_enter Tryd.func31, Tryd.ntmps31
  go_wp2
  clear hmk
  go_loopw [12] (fun x wr => ∃ i : Nat, i ≤ vs.length ∧ x = .int .i64 i ∧ Hid (GRow (fun j => .int .i64 ((vns vs).getD j 0)) vs.length w.heap.size w wr i) ∧ w.heap.size < wr.heap.size) (fun x _ => vs.length - (intOf x).toNat)
  case atStart => exact ⟨0, Nat.zero_le _, rfl, HS, by simp⟩
  case round =>
    obtain ⟨i, hik, rfl, HO, hsz⟩ := hrel
    have hb := HO.out.old
    by_cases hlt : i < vs.length
    · obtain ⟨b, o, rfl, hc0, hc1, hc2⟩ := (HL.out.keep hb) i hlt
      have HV : Hid ((vns vs).getD i 0 = vs[i].n) := by show _ = _; simp [vns, List.getD, hlt]
      generalize vs[i] = v at *
      obtain ⟨k, n, s⟩ := v
      simp only at hc0 hc1 hc2 HV
      have HO2 : Hid _ := HO.out.keep hsz ((Below.refl wr.heap.size wr).alloc (Nat.le_refl _) (.cells #[.int .i64 k, .int .i64 n, .string s] 50))
      obtain ⟨y, hy⟩ := HO2.out.any i hlt
      have hf := HO2.out.froz i hlt
      have hq := World.block_lt_of_cell? wr _ hc0
      simp only at hq
      go_wp2
      go_roundw
      case rel => exact ⟨i + 1, by omega, by go_num, (HO.out.next (v := .int .i64 n) (Nat.le_refl _) hlt (by rw [HV.out])).keep (by simpa using hsz) ((Below.refl _ _).alloc (Nat.le_refl _) _), by simp; omega⟩
      case measure => simp [intOf]; omega
    · obtain rfl : i = vs.length := by omega
      have hg := (hb.cell (World.block_lt_of_cell? w _ HG.out)).trans HG.out
      go_wp2_with fail
      refine (packF_right (some ⟨w.heap.size, 0, none⟩) (vns vs) vs.length vs.length 1 wr st sp (vns_len vs) hn (by omega) hg (fun x hx => room_one (HX.out x hx))
        (fun j h => ⟨w.heap.size, 0, rfl, by rw [Nat.zero_add, HO.out.done j (by rw [← vns_len vs]; exact h)]; simp [List.getD, h]⟩)).mono ?_
      rintro e w1 ⟨rfl, hb1⟩
      go_wp2_with fail
      go_ret2
      exact ⟨rfl, hb.trans (hb1.mono hb.size)⟩
theorem ret_pl {a b : List UInt8} {x : Value} (h : a = b) : Ending.returned (.tuple #[.string ⟨b.toArray⟩, x]) = .returned (.tuple #[.string ⟨a.toArray⟩, x]) := by rw [h]
/-- The bytes of right values of a kind. -/
def plainB (kd : Int) (vs : List Vl) : List UInt8 := if kd = 1 then packed 1 (vns vs) else if kd = 4 then Um.txts (vss vs) else Um.nums (if kd = 2 then 4 else 8) (vns vs)
set_option maxHeartbeats 800000 in
set_option maxRecDepth 100000 in
/-- Plain of right values. -/
theorem plain_right (a : Option Addr) (vs : List Vl) (c : Nat) (kd : Int) (w : World) (kt st : TypeId) (kp sp : Value) (hgk : w.cell? ⟨2, 0, none⟩ = some (.iface kt kp)) (hgs : w.cell? ⟨1, 0, none⟩ = some (.iface st sp)) (hn : vs.length ≤ 20000) (hk : 1 ≤ kd) (hk5 : kd ≤ 5) (hl : LiesV w a vs) (hok : ∀ j (h : j < vs.length), vs[j].Ok kd)
    (hx : ∀ j (h : j < vs.length), -9223372036854775808 ≤ vs[j].n ∧ vs[j].n ≤ 9223372036854775807) :
    Calls Tryd.prog 11 #[.int .i64 kd, .slice a vs.length c] w fun e w' => e = .returned (.tuple #[.string ⟨(plainB kd vs).toArray⟩, .nilIface]) ∧ Below w.heap.size w w' := by
  have HL : Hid (LiesV w a vs) := hl
  have HK : Hid (∀ j (h : j < vs.length), vs[j].Ok kd) := hok
  have HX : Hid (∀ j (h : j < vs.length), -9223372036854775808 ≤ vs[j].n ∧ vs[j].n ≤ 9223372036854775807) := hx
  have HGK : Hid _ := hgk
  have HGS : Hid _ := hgs
  clear hl hok hx hgk hgs
  go_enter Tryd.func11, Tryd.ntmps11
  go_wp2_with fail
  refine (checkE_any a vs c kd w kt kp hn hk hk5 HGK.out HL.out).mono ?_
  rintro e w1 ⟨⟨rfl, _⟩ | ⟨i, p, hi, rfl, _, hN, _, _⟩, hb1⟩
  · have hl1 : Hid _ := HL.out.keep hb1
    by_cases h1 : kd = 1
    · subst h1
      have HE : Hid (plainB 1 vs = packed 1 (vns vs)) := rfl
      go_wp2_with fail
      refine (plainBools_any a vs c w1 st sp ((hb1.cell (World.block_lt_of_cell? w _ HGS.out)).trans HGS.out) hn hl1.out ?_).mono ?_
      · intro n hm
        obtain ⟨v, hv, rfl⟩ := List.mem_map.1 hm
        obtain ⟨j, hj, rfl⟩ := List.getElem_of_mem hv
        have := HK.out j hj
        unfold Vl.Ok OkV at this
        omega
      rintro e w2 ⟨rfl, hb2⟩
      go_wp2_with fail
      go_ret2
      exact ⟨ret_pl HE.out, hb1.trans (hb2.mono hb1.size)⟩
    · by_cases h4 : kd = 4
      · subst h4
        have HE : Hid (plainB 4 vs = Um.txts (vss vs)) := rfl
        go_wp2_with fail
        refine (plainTexts_any a vs c w1 hn hl1.out ?_).mono ?_
        · intro s hm
          obtain ⟨v, hv, rfl⟩ := List.mem_map.1 hm
          obtain ⟨j, hj, rfl⟩ := List.getElem_of_mem hv
          have h := HK.out j hj
          unfold Vl.Ok OkV at h
          rw [Array.length_toList]
          show vs[j].s.size ≤ 100
          omega
        rintro e w2 ⟨rfl, hb2⟩
        go_wp2_with fail
        go_ret2
        exact ⟨ret_pl HE.out, hb1.trans (hb2.mono hb1.size)⟩
      · by_cases h2 : kd = 2
        · subst h2
          have HE : Hid (plainB 2 vs = Um.nums 4 (vns vs)) := rfl
          go_wp2_with fail
          refine (sizeOf_int _).mono ?_
          rintro e w2 ⟨rfl, hw⟩
          obtain rfl := hw.symm
          go_wp2_with fail
          refine (plainNumbers_any a vs c 4 _ hn (by omega) hl1.out HX.out).mono ?_
          rintro e w2 ⟨rfl, hb2⟩
          go_wp2_with fail
          go_ret2
          exact ⟨ret_pl HE.out, hb1.trans (hb2.mono hb1.size)⟩
        · have HE : Hid (plainB kd vs = Um.nums 8 (vns vs)) := by show _ = _; simp [plainB, h1, h4, h2]
          go_wp2_with fail
          refine (sizeOf_long _ _ h2).mono ?_
          rintro e w2 ⟨rfl, hw⟩
          obtain rfl := hw.symm
          go_wp2_with fail
          refine (plainNumbers_any a vs c 8 _ hn (by omega) hl1.out HX.out).mono ?_
          rintro e w2 ⟨rfl, hb2⟩
          go_wp2_with fail
          go_ret2
          exact ⟨ret_pl HE.out, hb1.trans (hb2.mono hb1.size)⟩
  · exact absurd (HK.out i hi) hN
set_option maxRecDepth 100000 in
set_option maxHeartbeats 800000 in
/-- Plain of values that are not of the kind. -/
theorem plain_fault (a : Option Addr) (vs : List Vl) (c : Nat) (kd : Int) (w : World) (kt : TypeId) (kp : Value) (hgk : w.cell? ⟨2, 0, none⟩ = some (.iface kt kp)) (hn : vs.length ≤ 20000) (hk : 1 ≤ kd) (hk5 : kd ≤ 5) (hl : LiesV w a vs) (i : Nat) (hi : i < vs.length) (hbad : ¬ vs[i].Ok kd) (hfirst : ∀ j (h : j < vs.length), j < i → vs[j].Ok kd) :
    Calls Tryd.prog 11 #[.int .i64 kd, .slice a vs.length c] w fun e w' => (∃ p, e = .returned (.tuple #[.string ⟨#[]⟩, .iface 91 (.pointer (some ⟨p, 0, none⟩))]) ∧ w'.cell? ⟨p, 0, none⟩ = some (.int .i64 i) ∧ w'.cell? ⟨p, 1, none⟩ = some (.iface kt kp)) ∧ Below w.heap.size w w' := by
  have HL : Hid (LiesV w a vs) := hl
  have HB : Hid (¬ vs[i].Ok kd) := hbad
  have HF : Hid (∀ j (h : j < vs.length), j < i → vs[j].Ok kd) := hfirst
  have HGK : Hid _ := hgk
  clear hl hbad hfirst hgk
  go_enter Tryd.func11, Tryd.ntmps11
  go_wp2_with fail
  refine (checkE_any a vs c kd w kt kp hn hk hk5 HGK.out HL.out).mono ?_
  rintro e w1 ⟨⟨rfl, hall⟩ | ⟨i2, p, hi2, rfl, hF2, hN2, hp0, hp1⟩, hb1⟩
  · exact absurd (hall i hi) HB.out
  · have hii : i2 = i := by
      by_cases hlt : i2 < i
      · exact absurd (HF.out i2 hi2 hlt) hN2
      · by_cases hgt : i < i2
        · exact absurd (hF2 i hi hgt) HB.out
        · omega
    subst hii
    clear hF2 hN2
    have H0 : Hid _ := hp0
    have H1 : Hid _ := hp1
    clear hp0 hp1
    go_wp2_with fail
    go_ret2
    exact ⟨⟨p, rfl, H0.out, H1.out⟩, hb1⟩
end Go.Proofs.YtbklaikniocihaaDoor

namespace Go.Proofs.YtbklaikniocihaaDoor
open Go.RowKit
theorem plain_four : plainB 2 [⟨2, -2, ⟨#[]⟩⟩] = [254, 255, 255, 255] := by decide +kernel
set_option maxRecDepth 100000 in
set_option maxHeartbeats 800000 in
theorem four_any (w : World) (kt st : TypeId) (kp sp : Value) (hgk : w.cell? ⟨2, 0, none⟩ = some (.iface kt kp)) (hgs : w.cell? ⟨1, 0, none⟩ = some (.iface st sp)) :
    Calls Tryd.prog 8 #[] w fun e w' => e = .returned (.bool true) ∧ Below w.heap.size w w' := by
  have hb0 : Below w.heap.size w (w.alloc (.cells #[.int .i64 2, .int .i64 (-2), .string ⟨#[]⟩] 50)) := (Below.refl _ _).alloc (Nat.le_refl _) _
  have HK : Hid ((w.alloc (.cells #[.int .i64 2, .int .i64 (-2), .string ⟨#[]⟩] 50)).cell? ⟨2, 0, none⟩ = some (.iface kt kp)) := (hb0.cell (World.block_lt_of_cell? w _ hgk)).trans hgk
  have HS : Hid ((w.alloc (.cells #[.int .i64 2, .int .i64 (-2), .string ⟨#[]⟩] 50)).cell? ⟨1, 0, none⟩ = some (.iface st sp)) := (hb0.cell (World.block_lt_of_cell? w _ hgs)).trans hgs
  have HL : Hid (LiesV (w.alloc (.cells #[.int .i64 2, .int .i64 (-2), .string ⟨#[]⟩] 50)) (some ⟨w.heap.size, 0, none⟩) [⟨2, -2, ⟨#[]⟩⟩]) := fun j hj => by
    obtain rfl : j = 0 := by simp at hj; omega
    exact ⟨w.heap.size, 0, rfl, cell_alloc_at rfl rfl, cell_alloc_at rfl rfl, cell_alloc_at rfl rfl⟩
  clear hgk hgs
  go_enter Tryd.func8, Tryd.ntmps8
  go_wp2_with fail
  refine (plain_right (some ⟨w.heap.size, 0, none⟩) [⟨2, -2, ⟨#[]⟩⟩] 1 2 _ kt st kp sp HK.out HS.out (by decide) (by omega) (by omega) HL.out (fun j h => ?_) (fun j h => ?_)).mono ?_
  · obtain rfl : j = 0 := by simp at h; omega
    show OkV 2 2 (-2) 0
    unfold OkV
    omega
  · obtain rfl : j = 0 := by simp at h; omega
    simp
  rw [plain_four]
  rintro e w1 ⟨rfl, hb1⟩
  go_wp2_with fail
  go_ret
  exact ⟨rfl, hb0.trans (hb1.mono hb0.size)⟩
end Go.Proofs.YtbklaikniocihaaDoor
