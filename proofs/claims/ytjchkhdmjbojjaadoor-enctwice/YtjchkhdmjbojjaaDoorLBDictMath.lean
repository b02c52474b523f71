/-
  Values by unlike ones and their places: the mathematics, without the program.
  enc.readUnlike: the dictionary that bytes begin with.
-/
import Derived.Test.YtjchkhdmjbojjaaDoorLMapV
import Derived.Test.YtjchkhdmjbojjaaDoorLBWordsMath
import Derived.Test.YtjchkhdmjbojjaaDoorLBUnpack
import Derived.Lib.BitFns
import Derived.Test.YtjchkhdmjbojjaaDoorLRdBools
import Derived.Test.YtjchkhdmjbojjaaDoorLBTwiceMath
namespace Go.Proofs.YtjchkhdmjbojjaaDoor
open Go.RowKit
namespace Um
/-- The width of the last place of so many. -/
def pw (n : Nat) : Nat := Lib.bitLen (n - 1)
theorem lt_bitLen : ∀ (f x : Nat), x < 2 ^ f → f ≤ 64 → x < 2 ^ Lib.bitLen x
  | 0, x, h, _ => by have : x = 0 := by simpa using h
                     subst this; decide
  | f + 1, x, h, hf => by
    by_cases h0 : x = 0
    · subst h0; decide
    · have hx : x < 2 ^ 64 := Nat.lt_of_lt_of_le h (Nat.pow_le_pow_right (by omega) hf)
      have ih := lt_bitLen f (x / 2) (by rw [Nat.pow_succ] at h; omega) (by omega)
      rw [Lib.bitLen_half x h0 hx, Nat.add_comm, Nat.pow_succ]
      omega
theorem lt_pw {p n : Nat} (h : p < n) (hn : n ≤ 20000) : p < 2 ^ pw n :=
  Nat.lt_of_le_of_lt (show p ≤ n - 1 by omega) (lt_bitLen 15 (n - 1) (Nat.lt_of_lt_of_le (show n - 1 < 20000 by omega) (by decide)) (by omega))
theorem pw_le {n : Nat} (hn : n ≤ 20000) : pw n ≤ 32 := Lib.bitLen_le _ 32 (by omega) (Nat.lt_of_lt_of_le (show n - 1 < 20001 by omega) (by decide))
theorem flush_len (w : Nat) (p : List Int) (hw : w ≤ 32) (hp : p.length ≤ 100000) : (flush w p).length ≤ 38 + 4 * p.length := by
  unfold flush
  split
  · simp
  · have h1 := uv_ten (n := 2 * ((p.length + 7) / 8) + 1) (by omega)
    have h2 : (p.length + 7) / 8 * w ≤ (p.length + 7) / 8 * 32 := Nat.mul_le_mul_left _ hw
    rw [List.length_append, lit_len]
    omega
theorem wr_len (w : Nat) (hw : w ≤ 32) : ∀ (f : Nat) (p r : List Int), p.length + r.length ≤ 100000 → (wr w f p r).length ≤ 60 + 4 * p.length + 60 * r.length := by
  intro f
  induction f with
  | zero => intro p r h; simp only [wr]; have := flush_len w p hw (by omega); omega
  | succ f ih =>
    intro p r h
    simp only [wr]
    split
    · have := flush_len w p hw (by omega); omega
    · rename_i h0
      have hl := lead_le r
      split
      · have := ih (p ++ r.take 8) (r.drop 8) (by simp; omega)
        simp only [List.length_append, List.length_take, List.length_drop] at this
        omega
      · rename_i h8
        have h1 := flush_len w p hw (by omega)
        have h2 := ih [] (r.drop (lead r)) (by simp; omega)
        have h3 := uv_ten (n := 2 * lead r) (by omega)
        have h4 : (w + 7) / 8 ≤ 4 := by omega
        simp only [List.length_append, lit_len, List.length_drop, List.length_nil] at *
        omega
theorem wrs_len (w : Nat) (hw : w ≤ 32) (xs : List Int) (h : xs.length ≤ 400) : (wrs w [] xs).length ≤ 30000 := by
  have := wr_len w hw xs.length [] xs (by simp; omega)
  unfold wrs
  simp at this
  omega
end Um
/-- Places as numbers. -/
def pints (ps : List Nat) : List Int := ps.map fun p : Nat => (p : Int)
theorem pints_len (ps : List Nat) : (pints ps).length = ps.length := by simp [pints]
/-- The bytes of Dict. -/
def dictB (kd : Int) (us : List Vl) (ps : List Nat) : List UInt8 := Um.uv us.length ++ Um.txt (plainB kd us) ++ Um.wrs (Um.pw us.length) [] (pints ps)
theorem right_sub {kd : Int} {vs us : List Vl} (h : Right kd vs) (hs : ∀ u ∈ us, u ∈ vs) : Right kd us := ⟨h.1, fun u hu => h.2 u (hs u hu)⟩
theorem plainB_len {kd : Int} {vs : List Vl} (h : Right kd vs) : (plainB kd vs).length ≤ 110 * vs.length + 8 := by
  unfold plainB
  split
  · unfold packed
    rw [Um.lit_len, vns_len]; omega
  · split
    · rename_i h4
      have := Um.txts_len (vss vs) fun s hm => by
        obtain ⟨v, hv, rfl⟩ := List.mem_map.1 hm
        have ho := (h.2 v hv).1
        unfold Vl.Ok OkV at ho
        rw [Array.length_toList]
        show v.s.size ≤ 100
        omega
      rw [vss_len] at this
      omega
    · rw [Um.nums_len, vns_len]
      split <;> omega
theorem pints_room {vs us : List Vl} {ps : List Nat} (h : Uq vs us ps) (hn : vs.length ≤ 20000) : ∀ j (hj : j < (pints ps).length), Room (Um.pw us.length) (pints ps)[j] := fun j hj => by
  have hl := h.len
  rw [pints_len] at hj
  have h1 := h.lt ps[j] (List.getElem_mem hj)
  have h2 := Um.lt_pw h1 (by omega)
  unfold Room
  simp only [pints, List.getElem_map]
  have e : ((2 ^ Um.pw us.length : Nat) : Int) = (2 : Int) ^ Um.pw us.length := by simp
  rw [← e]
  omega
end Go.Proofs.YtjchkhdmjbojjaaDoor

namespace Go.Proofs.YtjchkhdmjbojjaaDoor
open Go.RowKit
theorem uvHit (s : ByteArray) (m : Nat) (r : List UInt8) (w : World) (ev : Value) (hs : s.size ≤ 1000000) (hg : w.cell? ⟨0, 0, none⟩ = some ev) (hm : m < 18446744073709551616) (he : s.data.toList = Um.uv m ++ r) :
    Calls Tryd.prog 84 #[.string s] w fun e w' => e = .returned (.tuple #[.int .u64 (m : Nat), .int .i64 ((Um.uv m).length : Nat), .nilIface]) ∧ Below w.heap.size w w' := by
  have h := readUvarint_any s w ev (by unfold maxLen; omega) hg
  rw [he, Um.rdv_whole m r hm] at h
  have hp := Um.uv_pos m
  have e0 : errOf ev (Um.uv m).length = .nilIface := by
    unfold errOf
    rw [if_neg (by omega)]
  simp only [e0] at h
  exact h
set_option maxRecDepth 100000 in
set_option maxHeartbeats 1600000 in
theorem readUnlike_right (kd : Int) (s : ByteArray) (n : Nat) (us : List Vl) (r : List UInt8) (w : World) (st : TypeId) (sp : Value) (hg : w.cell? ⟨0, 0, none⟩ = some (.iface st sp)) (hs : s.size ≤ 1000000) (hn : n ≤ 20000) (hun : us.length ≤ n) (hR : Right kd us) (he : s.data.toList = Um.uv us.length ++ Um.txt (plainB kd us) ++ r) :
    Calls Tryd.prog 52 #[.int .i64 kd, .string s, .int .i64 n] w fun e w' => (∃ a c, e = .returned (.tuple #[.slice a us.length c, .int .i64 ((Um.uv us.length ++ Um.txt (plainB kd us)).length : Nat), .nilIface]) ∧ LiesV w' a us) ∧ Below w.heap.size w w' := by
  obtain ⟨pb, HPB⟩ : ∃ pb, Hid (pb = plainB kd us) := ⟨_, rfl⟩
  obtain ⟨u1, HU1⟩ : ∃ u1, Hid (u1 = (Um.uv us.length).length) := ⟨_, rfl⟩
  obtain ⟨u2, HU2⟩ : ∃ u2, Hid (u2 = (Um.uv pb.length).length) := ⟨_, rfl⟩
  obtain ⟨z, HZ⟩ : ∃ z, Hid (z = pb.length) := ⟨_, rfl⟩
  have htx : Um.txt pb = Um.uv pb.length ++ pb := rfl
  have hlen : s.size = u1 + u2 + z + r.length := by
    have h := congrArg List.length he
    rw [Array.length_toList, ← HPB.out, htx] at h
    simp only [List.length_append] at h
    rw [HU1.out, HU2.out, HZ.out]
    change s.size = _ at h
    omega
  have hUL : (Um.uv us.length ++ Um.txt (plainB kd us)).length = u1 + u2 + z := by
    rw [← HPB.out, htx, HU1.out, HU2.out, HZ.out]
    simp only [List.length_append]
    omega
  rw [hUL]
  have HR : Hid (Right kd us) := hR
  have HG : Hid _ := hg
  have h1 := uvHit s us.length (Um.txt pb ++ r) w (.iface st sp) hs hg (by omega) (by rw [he, HPB.out, List.append_assoc])
  rw [← HU1.out] at h1
  have HX1 : Hid ((s.extract u1 s.size).data.toList = Um.uv pb.length ++ (pb ++ r)) := by
    show _ = _
    rw [drop_ext, he, HU1.out, ← HPB.out, List.append_assoc, List.drop_left, htx, List.append_assoc]
  have hxs : (s.extract u1 s.size).size ≤ 1000000 := by rw [ByteArray.size_extract]; omega
  have HX2 : Hid ((s.extract (u1 + u2) (u1 + u2 + z)).data.toList = plainB kd us) := by
    show _ = _
    rw [ext_take, ← List.drop_drop]
    have h2 : s.data.toList.drop u1 = Um.uv pb.length ++ (pb ++ r) := by rw [he, HU1.out, ← HPB.out, List.append_assoc, List.drop_left, htx, List.append_assoc]
    rw [h2, HU2.out, List.drop_left, ← HPB.out, HZ.out, List.take_left]
  have hxz : (s.extract (u1 + u2) (u1 + u2 + z)).size ≤ 1000000 := by rw [ByteArray.size_extract]; omega
  have hle : u1 + u2 + z ≤ s.size := by omega
  clear he hUL htx hg hR hlen
  have hu10 : u1 ≤ 10 := by rw [HU1.out]; exact Um.uv_ten (by omega)
  have hu20 : u2 ≤ 10 := by rw [HU2.out]; exact Um.uv_ten (by rw [← HZ.out]; omega)
  have hu2p : 0 < u2 := by rw [HU2.out]; exact Um.uv_pos _
  go_enter Tryd.func52, Tryd.ntmps52
  go_wp2_with fail
  refine h1.mono ?_
  clear h1
  rintro e w1 ⟨rfl, hb1⟩
  have hg1 := (hb1.cell (World.block_lt_of_cell? w _ HG.out)).trans HG.out
  have HG1 : Hid _ := hg1
  have h2 := uvHit (s.extract u1 s.size) pb.length (pb ++ r) w1 (.iface st sp) hxs hg1 (by rw [← HZ.out]; omega) HX1.out
  rw [← HU2.out, ← HZ.out] at h2
  clear hg1
  have hw1 : IntKind.u64.wrap (n : Int) = n := by rw [IntKind.wrap_u64]; omega
  go_wp2_with fail
  refine h2.mono ?_
  clear h2
  rintro e w2 ⟨rfl, hb2⟩
  have hb12 := hb1.trans (hb2.mono hb1.size)
  have hg2 := (hb2.cell (World.block_lt_of_cell? w1 _ HG1.out)).trans HG1.out
  have hw2 : IntKind.u64.wrap ((s.size : Int) - ((u1 : Int) + (u2 : Int))) = ((s.size - (u1 + u2) : Nat) : Int) := by rw [IntKind.wrap_u64]; omega
  have h3 := readPlain_any kd (s.extract (u1 + u2) (u1 + u2 + z)) us.length w2 st sp hg2 hxz (by omega) HR.out.1.1 HR.out.1.2
  rw [HX2.out] at h3
  clear hg2
  go_wp2_with fail
  refine h3.mono ?_
  clear h3
  rintro e w3 ⟨⟨vs, a, c, hI, rfl, hl⟩ | ⟨hI, rfl⟩, hb3⟩
  · obtain rfl : vs = us := isPl_fn hI ⟨rfl, HR.out, rfl⟩
    have HL : Hid _ := hl
    clear hl hI
    go_wp2
    go_ret3
    exact ⟨⟨a, c, rfl, HL.out⟩, hb12.trans (hb3.mono hb12.size)⟩
  · exact absurd ⟨us, rfl, HR.out, rfl⟩ hI
end Go.Proofs.YtjchkhdmjbojjaaDoor
