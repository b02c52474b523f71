/-
  The law's four: an Int has four bytes.
-/
import Derived.Test.YtjchkhdmjbojjaaDoorJPBools
namespace Go.Proofs.YtjchkhdmjbojjaaDoor
open Go.RowKit
theorem plain_four : plainB 2 [⟨2, -2, ⟨#[]⟩⟩] = [254, 255, 255, 255] := by decide +kernel
set_option maxRecDepth 100000 in
set_option maxHeartbeats 800000 in
theorem four_any (w : World) (kt st : TypeId) (kp sp : Value) (hgk : w.cell? ⟨2, 0, none⟩ = some (.iface kt kp)) (hgs : w.cell? ⟨1, 0, none⟩ = some (.iface st sp)) :
    Calls Tryd.prog 6 #[] w fun e w' => e = .returned (.bool true) ∧ Below w.heap.size w w' := by
  have hb0 : Below w.heap.size w (w.alloc (.cells #[.int .i64 2, .int .i64 (-2), .string ⟨#[]⟩] 45)) := (Below.refl _ _).alloc (Nat.le_refl _) _
  have HK : Hid ((w.alloc (.cells #[.int .i64 2, .int .i64 (-2), .string ⟨#[]⟩] 45)).cell? ⟨2, 0, none⟩ = some (.iface kt kp)) := (hb0.cell (World.block_lt_of_cell? w _ hgk)).trans hgk
  have HS : Hid ((w.alloc (.cells #[.int .i64 2, .int .i64 (-2), .string ⟨#[]⟩] 45)).cell? ⟨1, 0, none⟩ = some (.iface st sp)) := (hb0.cell (World.block_lt_of_cell? w _ hgs)).trans hgs
  have HL : Hid (LiesV (w.alloc (.cells #[.int .i64 2, .int .i64 (-2), .string ⟨#[]⟩] 45)) (some ⟨w.heap.size, 0, none⟩) [⟨2, -2, ⟨#[]⟩⟩]) := fun j hj => by
    obtain rfl : j = 0 := by simp at hj; omega
    exact ⟨w.heap.size, 0, rfl, cell_alloc_at rfl rfl, cell_alloc_at rfl rfl, cell_alloc_at rfl rfl⟩
  clear hgk hgs
  go_enter Tryd.func6, Tryd.ntmps6
  go_wp2_with fail
  refine (plain_right (some ⟨w.heap.size, 0, none⟩) [⟨2, -2, ⟨#[]⟩⟩] 1 2 _ kt st kp sp HK.out HS.out (by decide) (by omega) (by omega) HL.out (fun j h => ?_) (fun j h => ?_)).mono ?_
  · obtain rfl : j = 0 := by simp at h; omega
    show OkV 2 2 (-2) 0
    unfold OkV
    omega
  · obtain rfl : j = 0 := by simp at h; omega
    simp
  rw [plain_four]
  rintro e w1 ⟨rfl, hb1⟩
  go_wp2_with fail
  go_ret
  exact ⟨rfl, hb0.trans (hb1.mono hb0.size)⟩
end Go.Proofs.YtjchkhdmjbojjaaDoor
