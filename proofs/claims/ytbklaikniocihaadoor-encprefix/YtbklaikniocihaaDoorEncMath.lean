/-
  Values as bytes: the mathematics of Plain, without the program.
-/
import Derived.Test.YtbklaikniocihaaDoorFixMath
namespace Go.Proofs.YtbklaikniocihaaDoor
namespace Um
/-- The bits of a number with a sign. -/
def u64 (n : Int) : Nat := (n % 18446744073709551616).toNat
theorem u64_lt (n : Int) : u64 n < 18446744073709551616 := by unfold u64; omega
theorem u64_int (n : Int) : ((u64 n : Nat) : Int) = n % 18446744073709551616 := by unfold u64; omega
theorem by_u64 (n : Int) (j : Nat) (hj : j < 8) : n / 2 ^ (8 * j) % 256 = ((by_ (u64 n) j : Nat) : Int) := by
  unfold by_
  have h : j = 0 ∨ j = 1 ∨ j = 2 ∨ j = 3 ∨ j = 4 ∨ j = 5 ∨ j = 6 ∨ j = 7 := by omega
  have hu := u64_int n
  rcases h with rfl | rfl | rfl | rfl | rfl | rfl | rfl | rfl <;> simp <;> omega
/-- Numbers with a sign, so many bytes each. -/
def nums (k : Nat) (ns : List Int) : List UInt8 := ns.flatMap fun n => lit (u64 n) k
theorem nums_nil (k : Nat) : nums k [] = [] := rfl
theorem nums_len (k : Nat) (ns : List Int) : (nums k ns).length = k * ns.length := by
  induction ns with
  | nil => simp [nums]
  | cons n ns ih => simp only [nums, List.flatMap_cons, List.length_append, lit_len, List.length_cons] at *; rw [ih, Nat.mul_add]; omega
theorem nums_snoc (k : Nat) (ns : List Int) (n : Int) : nums k (ns ++ [n]) = nums k ns ++ lit (u64 n) k := by simp [nums]
theorem nums_take (k : Nat) (ns : List Int) (i : Nat) (h : i < ns.length) : nums k (ns.take (i + 1)) = nums k (ns.take i) ++ lit (u64 ns[i]) k := by
  rw [List.take_succ_eq_append_getElem h, nums_snoc]
/-- A text behind its length. -/
def txt (s : List UInt8) : List UInt8 := uv s.length ++ s
/-- Texts, one behind the other. -/
def txts (ss : List (List UInt8)) : List UInt8 := ss.flatMap txt
theorem txts_nil : txts [] = [] := rfl
theorem txts_snoc (ss : List (List UInt8)) (s : List UInt8) : txts (ss ++ [s]) = txts ss ++ txt s := by simp [txts]
theorem txts_take (ss : List (List UInt8)) (i : Nat) (h : i < ss.length) : txts (ss.take (i + 1)) = txts (ss.take i) ++ txt ss[i] := by
  rw [List.take_succ_eq_append_getElem h, txts_snoc]
theorem txt_len (s : List UInt8) (h : s.length < 18446744073709551616) : (txt s).length ≤ s.length + 10 := by
  have := uv_ten h
  simp [txt]; omega
theorem txts_len (ss : List (List UInt8)) (h : ∀ s ∈ ss, s.length ≤ 100) : (txts ss).length ≤ 110 * ss.length := by
  induction ss with
  | nil => simp [txts]
  | cons s ss ih =>
    have h1 := ih fun t ht => h t (by simp [ht])
    have h2 := h s (by simp)
    have h3 := txt_len s (by omega)
    simp only [txts, List.flatMap_cons, List.length_append, List.length_cons] at *
    omega
end Um
end Go.Proofs.YtbklaikniocihaaDoor
