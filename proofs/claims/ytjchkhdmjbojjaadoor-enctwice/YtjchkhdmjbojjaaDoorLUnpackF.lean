/-
  bitrun.Unpack and the reference's UnpackOf: what they answer.
-/
import Derived.Test.YtjchkhdmjbojjaaDoorLBUnpack
import Derived.RegionTactic
namespace Go.Proofs.YtjchkhdmjbojjaaDoor
open Go.RowKit
set_option maxRecDepth 100000 in
set_option maxHeartbeats 800000 in
theorem unpackF_bound (s : ByteArray) (k n : Int) (w : World) (st : TypeId) (sp : Value) (hg : w.cell? ⟨3, 0, none⟩ = some (.iface st sp)) (hk : decide (0 ≤ k ∧ k ≤ 32) = false ∨ decide (0 ≤ k ∧ k ≤ 32) = true ∧ decide (0 ≤ n ∧ n ≤ 20000) = false) :
    Calls Tryd.prog 80 #[.string s, .int .i64 k, .int .i64 n] w fun e w' => e = .returned (.tuple #[.slice none 0 0, .iface st sp]) ∧ Below w.heap.size w w' := by
  rcases hk with h | ⟨h, h'⟩
  all_goals
    go_enter Tryd.func80, Tryd.ntmps80
    go_wp2_with (first | (go_at_call 85; refine (isWidth_any _ _).mono ?_; rw [h]; rintro e w1 ⟨rfl, hw⟩; obtain rfl := hw.symm) | (go_at_call 86; refine (isCount_any _ _).mono ?_; rw [h']; rintro e w1 ⟨rfl, hw⟩; obtain rfl := hw.symm))
    go_region
    all_goals (try go_wp2)
    all_goals go_ret2
    all_goals exact ⟨rfl, (Below.refl _ _).drew⟩
set_option maxRecDepth 100000 in
set_option maxHeartbeats 800000 in
theorem unpackF_short (s : ByteArray) (k n : Nat) (w : World) (st : TypeId) (sp : Value) (_hs : s.size ≤ 1000000) (hk : k ≤ 32) (hn : n ≤ 20000) (hg : w.cell? ⟨0, 0, none⟩ = some (.iface st sp)) (hsh : 8 * s.size < k * n) :
    Calls Tryd.prog 80 #[.string s, .int .i64 k, .int .i64 n] w fun e w' => e = .returned (.tuple #[.slice none 0 0, .iface st sp]) ∧ Below w.heap.size w w' := by
  have hd1 : decide (0 ≤ (k : Int) ∧ (k : Int) ≤ 32) = true := by simp; omega
  have hd2 : decide (0 ≤ (n : Int) ∧ (n : Int) ≤ 20000) = true := by simp; omega
  have hmul : k * n ≤ 32 * 20000 := Nat.mul_le_mul hk hn
  have hmi : (n : Int) * (k : Int) = ((k * n : Nat) : Int) := by rw [Nat.mul_comm]; simp
  obtain ⟨z, HZ⟩ : ∃ z, Hid (z = (k * n + 7) / 8) := ⟨_, rfl⟩
  have hz : s.size < z := by rw [HZ.out]; omega
  go_enter Tryd.func80, Tryd.ntmps80
  go_wp2_with (first | (go_at_call 85; refine (isWidth_any _ _).mono ?_; rw [hd1]; rintro e w1 ⟨rfl, hw⟩; obtain rfl := hw.symm) | (go_at_call 86; refine (isCount_any _ _).mono ?_; rw [hd2]; rintro e w1 ⟨rfl, hw⟩; obtain rfl := hw.symm) | (go_at_call 65; refine (eights_any (k * n) _ (by omega)).mono ?_; rw [← HZ.out]; rintro e w2 ⟨rfl, hw⟩; obtain rfl := hw.symm))
  go_region
  all_goals (try go_wp2)
  all_goals go_ret2
  all_goals exact ⟨rfl, (Below.refl _ _).drew⟩
/-- What unpack leaves. -/
def Unpd (s : ByteArray) (k n : Nat) (e : Ending) (w w' : World) (tail : Array Value) : Prop :=
  ∃ g, w.heap.size ≤ g ∧ e = .returned (.tuple (#[.slice (some ⟨g, 0, none⟩) n n] ++ tail)) ∧ ∀ j, j < n → w'.cell? ⟨g, j, none⟩ = some (.int .i64 ((Um.lev s.data.toList / 2 ^ (k * j) % 2 ^ k : Nat) : Int))
set_option maxRecDepth 100000 in
set_option maxHeartbeats 800000 in
theorem unpackF_ok (s : ByteArray) (k n : Nat) (w : World) (hs : s.size ≤ 1000000) (hk : k ≤ 32) (hn : n ≤ 20000) (hsh : k * n ≤ 8 * s.size) :
    Calls Tryd.prog 80 #[.string s, .int .i64 k, .int .i64 n] w fun e w' => Unpd s k n e w w' #[.nilIface] ∧ Below w.heap.size w w' := by
  have hd1 : decide (0 ≤ (k : Int) ∧ (k : Int) ≤ 32) = true := by simp; omega
  have hd2 : decide (0 ≤ (n : Int) ∧ (n : Int) ≤ 20000) = true := by simp; omega
  have hmul : k * n ≤ 32 * 20000 := Nat.mul_le_mul hk hn
  have hmi : (n : Int) * (k : Int) = ((k * n : Nat) : Int) := by rw [Nat.mul_comm]; simp
  obtain ⟨z, HZ⟩ : ∃ z, Hid (z = (k * n + 7) / 8) := ⟨_, rfl⟩
  have hz : ¬ s.size < z := by rw [HZ.out]; omega
  have HF : Hid (k * n ≤ 8 * s.size) := hsh
  clear hsh
  go_enter Tryd.func80, Tryd.ntmps80
  go_wp2_with (first | (go_at_call 85; refine (isWidth_any _ _).mono ?_; rw [hd1]; rintro e w1 ⟨rfl, hw⟩; obtain rfl := hw.symm) | (go_at_call 86; refine (isCount_any _ _).mono ?_; rw [hd2]; rintro e w1 ⟨rfl, hw⟩; obtain rfl := hw.symm) | (go_at_call 65; refine (eights_any (k * n) _ (by omega)).mono ?_; rw [← HZ.out]; rintro e w2 ⟨rfl, hw⟩; obtain rfl := hw.symm) | (go_at_call 106; refine (unpack_any s k n w hs (by omega) hk HF.out).mono ?_; rintro e w3 ⟨⟨rfl, hc⟩, hb3⟩; have HC : Hid _ := hc; clear hc))
  go_ret2
  exact ⟨⟨w.heap.size, Nat.le_refl _, rfl, HC.out⟩, hb3⟩
/-- What UnpackOf says. -/
def UnpOf (s : ByteArray) (k n : Nat) (e : Ending) (w' : World) : Prop :=
  (k * n ≤ 8 * s.size ∧ ∃ a c, e = .returned (.tuple #[.slice a n c, .bool true]) ∧ Lies w' a (u64s (Um.unp s.data.toList k n)) ∧ ∃ B, w'.ownsRow B 55 1 (.slice a n c) n (u64s (Um.unp s.data.toList k n))) ∨
  (8 * s.size < k * n ∧ e = .returned (.tuple #[.slice none 0 0, .bool false]))
theorem bit_add {x b r k : Nat} (hx : x < 4294967296) (hk : k < 32) : IntKind.u64.wrap ((x : Int) + IntKind.u64.wrap (((b : Int) / 2 ^ r).tmod 2 * 2 ^ k)) = ((x + b / 2 ^ r % 2 * 2 ^ k : Nat) : Int) := by
  have h8 : 2 ^ k ≤ 2 ^ 31 := Nat.pow_le_pow_right (by omega) (by omega)
  have h31 : 2 ^ 31 = 2147483648 := by decide
  have hb : b / 2 ^ r % 2 < 2 := Nat.mod_lt _ (by omega)
  have hm : b / 2 ^ r % 2 * 2 ^ k ≤ 1 * 2 ^ 31 := Nat.mul_le_mul (by omega) h8
  have e0 : (b : Int) / 2 ^ r = ((b / 2 ^ r : Nat) : Int) := by simp
  have e1 : ((b : Int) / 2 ^ r).tmod 2 = ((b / 2 ^ r % 2 : Nat) : Int) := by
    rw [e0]
    generalize b / 2 ^ r = q
    rw [Int.tmod_eq_emod_of_nonneg (by omega)]; omega
  have e : ((b / 2 ^ r % 2 : Nat) : Int) * 2 ^ k = ((b / 2 ^ r % 2 * 2 ^ k : Nat) : Int) := by simp
  rw [e1, e, IntKind.wrap_u64, IntKind.wrap_u64]
  omega
end Go.Proofs.YtjchkhdmjbojjaaDoor
