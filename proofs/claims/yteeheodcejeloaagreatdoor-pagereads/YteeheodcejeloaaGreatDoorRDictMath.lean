/-
  Values by unlike ones and their places: the mathematics, without the program.
-/
import Derived.Test.YteeheodcejeloaaGreatDoorRMapV
import Derived.Test.YteeheodcejeloaaGreatDoorRBWordsMath
import Derived.Test.YteeheodcejeloaaGreatDoorRBPack
import Derived.Lib.BitFns
namespace Go.Proofs.YteeheodcejeloaaGreatDoor
open Go.RowKit
namespace Um
/-- The width of the last place of so many. -/
def pw (n : Nat) : Nat := Lib.bitLen (n - 1)
theorem lt_bitLen : ∀ (f x : Nat), x < 2 ^ f → f ≤ 64 → x < 2 ^ Lib.bitLen x
  | 0, x, h, _ => by have : x = 0 := by simpa using h
                     subst this; decide
  | f + 1, x, h, hf => by
    by_cases h0 : x = 0
    · subst h0; decide
    · have hx : x < 2 ^ 64 := Nat.lt_of_lt_of_le h (Nat.pow_le_pow_right (by omega) hf)
      have ih := lt_bitLen f (x / 2) (by rw [Nat.pow_succ] at h; omega) (by omega)
      rw [Lib.bitLen_half x h0 hx, Nat.add_comm, Nat.pow_succ]
      omega
theorem lt_pw {p n : Nat} (h : p < n) (hn : n ≤ 20000) : p < 2 ^ pw n :=
  Nat.lt_of_le_of_lt (show p ≤ n - 1 by omega) (lt_bitLen 15 (n - 1) (Nat.lt_of_lt_of_le (show n - 1 < 20000 by omega) (by decide)) (by omega))
theorem pw_le {n : Nat} (hn : n ≤ 20000) : pw n ≤ 32 := Lib.bitLen_le _ 32 (by omega) (Nat.lt_of_lt_of_le (show n - 1 < 20001 by omega) (by decide))
theorem flush_len (w : Nat) (p : List Int) (hw : w ≤ 32) (hp : p.length ≤ 100000) : (flush w p).length ≤ 38 + 4 * p.length := by
  unfold flush
  split
  · simp
  · have h1 := uv_ten (n := 2 * ((p.length + 7) / 8) + 1) (by omega)
    have h2 : (p.length + 7) / 8 * w ≤ (p.length + 7) / 8 * 32 := Nat.mul_le_mul_left _ hw
    rw [List.length_append, lit_len]
    omega
theorem wr_len (w : Nat) (hw : w ≤ 32) : ∀ (f : Nat) (p r : List Int), p.length + r.length ≤ 100000 → (wr w f p r).length ≤ 60 + 4 * p.length + 60 * r.length := by
  intro f
  induction f with
  | zero => intro p r h; simp only [wr]; have := flush_len w p hw (by omega); omega
  | succ f ih =>
    intro p r h
    simp only [wr]
    split
    · have := flush_len w p hw (by omega); omega
    · rename_i h0
      have hl := lead_le r
      split
      · have := ih (p ++ r.take 8) (r.drop 8) (by simp; omega)
        simp only [List.length_append, List.length_take, List.length_drop] at this
        omega
      · rename_i h8
        have h1 := flush_len w p hw (by omega)
        have h2 := ih [] (r.drop (lead r)) (by simp; omega)
        have h3 := uv_ten (n := 2 * lead r) (by omega)
        have h4 : (w + 7) / 8 ≤ 4 := by omega
        simp only [List.length_append, lit_len, List.length_drop, List.length_nil] at *
        omega
theorem wrs_len (w : Nat) (hw : w ≤ 32) (xs : List Int) (h : xs.length ≤ 1000) : (wrs w [] xs).length ≤ 80000 := by
  have := wr_len w hw xs.length [] xs (by simp; omega)
  unfold wrs
  simp at this
  omega
end Um
/-- Places as numbers. -/
def pints (ps : List Nat) : List Int := ps.map fun p : Nat => (p : Int)
theorem pints_len (ps : List Nat) : (pints ps).length = ps.length := by simp [pints]
/-- The bytes of Dict. -/
def dictB (kd : Int) (us : List Vl) (ps : List Nat) : List UInt8 := Um.uv us.length ++ Um.txt (plainB kd us) ++ Um.wrs (Um.pw us.length) [] (pints ps)
theorem right_sub {kd : Int} {vs us : List Vl} (h : Right kd vs) (hs : ∀ u ∈ us, u ∈ vs) : Right kd us := ⟨h.1, fun u hu => h.2 u (hs u hu)⟩
theorem plainB_len {kd : Int} {vs : List Vl} (h : Right kd vs) : (plainB kd vs).length ≤ 110 * vs.length + 8 := by
  unfold plainB
  split
  · unfold packed
    rw [Um.lit_len, vns_len]; omega
  · split
    · rename_i h4
      have := Um.txts_len (vss vs) fun s hm => by
        obtain ⟨v, hv, rfl⟩ := List.mem_map.1 hm
        have ho := (h.2 v hv).1
        unfold Vl.Ok OkV at ho
        rw [Array.length_toList]
        show v.s.size ≤ 100
        omega
      rw [vss_len] at this
      omega
    · rw [Um.nums_len, vns_len]
      split <;> omega
theorem pints_room {vs us : List Vl} {ps : List Nat} (h : Uq vs us ps) (hn : vs.length ≤ 20000) : ∀ j (hj : j < (pints ps).length), Room (Um.pw us.length) (pints ps)[j] := fun j hj => by
  have hl := h.len
  rw [pints_len] at hj
  have h1 := h.lt ps[j] (List.getElem_mem hj)
  have h2 := Um.lt_pw h1 (by omega)
  unfold Room
  simp only [pints, List.getElem_map]
  have e : ((2 ^ Um.pw us.length : Nat) : Int) = (2 : Int) ^ Um.pw us.length := by simp
  rw [← e]
  omega
end Go.Proofs.YteeheodcejeloaaGreatDoor
