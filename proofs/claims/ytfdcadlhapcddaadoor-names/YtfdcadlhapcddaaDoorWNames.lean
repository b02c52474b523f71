/-
  The walk of the law Names.
-/
import Derived.Test.YtfdcadlhapcddaaDoorCodeFault
import Derived.Test.YtfdcadlhapcddaaDoorSameInts
import Derived.Test.YtfdcadlhapcddaaDoorLaid8
import Derived.Deep.RegionHeld3
namespace Go.Proofs.YtfdcadlhapcddaaDoor
open Go.RowKit Go.Extern.Stop Go.Stop Go.Extern
def ls17 : List Int := [8000, 6, 40, 12, 1000, 100, 40, 100, 20000, 32, 200000, 60, 40, 500000, 4, 100, 16]
def ls9 : List Int := [0, 1, 2, 3, 4, 5, 1, 2, 3]
theorem ints_new (w : World) (xs : List Int) (ty : TypeId) (cap : Nat) : IntsAt (w.alloc (.cells (xs.map (Value.int .i64)).toArray ty)) (.slice (some ⟨w.heap.size, 0, none⟩) xs.length cap) xs := by
  refine Or.inr ⟨w.heap.size, 0, cap, rfl, fun j hj => ?_⟩
  rw [cell_of_row _ w.heap.size (0 + j) _ ty (0, 0) (heap_alloc_new w _)]
  simp [hj]
theorem ints_new' (w : World) (xs : List Int) (ty : TypeId) (cap g n : Nat) (hg : g = w.heap.size) (hn : n = xs.length) : IntsAt (w.alloc (.cells (xs.map (Value.int .i64)).toArray ty)) (.slice (some ⟨g, 0, none⟩) n cap) xs := by
  subst hg hn; exact ints_new w xs ty cap
theorem IntsAt.alloc {w : World} {v : Value} {xs : List Int} (h : IntsAt w v xs) (o : Obj) : IntsAt (w.alloc o) v xs := h.keep ((Below.refl _ _).alloc (Nat.le_refl _) _)
def c17 : Obj := .cells (ls17.map (Value.int .i64)).toArray 3
def c9 : Obj := .cells (ls9.map (Value.int .i64)).toArray 3
/-- Each name behind the common beginning. -/
def nmT : Nat → List UInt8
  | 0 => [116, 101, 120, 116] | 1 => [98, 111, 117, 110, 100] | 2 => [115, 104, 97, 112, 101] | 3 => [107, 105, 110, 100] | 4 => [110, 97, 109, 101] | 5 => [110, 111, 110, 101] | 6 => [115, 117, 109] | _ => [115, 112, 97, 99, 101]
theorem nmT_err : ∀ i : Fin 8, [115, 104, 114, 101, 100, 99, 111, 108, 58, 32] ++ nmT i = errT i := by decide
def eightN : Array Value := #[.string ⟨#[116, 101, 120, 116]⟩, .string ⟨#[98, 111, 117, 110, 100]⟩, .string ⟨#[115, 104, 97, 112, 101]⟩, .string ⟨#[107, 105, 110, 100]⟩, .string ⟨#[110, 97, 109, 101]⟩, .string ⟨#[110, 111, 110, 101]⟩, .string ⟨#[115, 117, 109]⟩, .string ⟨#[115, 112, 97, 99, 101]⟩]
theorem eightN_at (k : Nat) (hk : k < 8) : eightN[k]? = some (.string ⟨(nmT k).toArray⟩) := by
  have h : k = 0 ∨ k = 1 ∨ k = 2 ∨ k = 3 ∨ k = 4 ∨ k = 5 ∨ k = 6 ∨ k = 7 := by omega
  rcases h with rfl | rfl | rfl | rfl | rfl | rfl | rfl | rfl <;> rfl
structure NRow (w : World) (A : Nat → Addr) (g1 g2 : Nat) (wr : World) : Prop where
  errs : Errs wr A
  e : ∀ k, k < 8 → wr.cell? ⟨g1, k, none⟩ = some (errV (A k))
  t : ∀ k, k < 8 → wr.cell? ⟨g2, k, none⟩ = some (.string ⟨(nmT k).toArray⟩)
  old : Below w.heap.size w wr
theorem NRow.start {w w2 : World} {A : Nat → Addr} (hb : Below w.heap.size w w2) (h : Errs w2 A) : NRow w A w2.heap.size (w2.heap.size + 1) ((w2.alloc (.cells (eightV A) 25)).alloc (.cells eightN 9)) := by
  have b1 : Below w2.heap.size w2 (w2.alloc (.cells (eightV A) 25)) := (Below.refl _ _).alloc (Nat.le_refl _) _
  have b2 : Below w2.heap.size w2 ((w2.alloc (.cells (eightV A) 25)).alloc (.cells eightN 9)) := b1.alloc (by simp) _
  refine ⟨h.keep b2, fun k hk => ?_, fun k hk => ?_, hb.trans (b2.mono hb.size)⟩
  · rw [cell_of_row _ w2.heap.size k (eightV A) 25 (0, 0) (heap_alloc2_old w2 _ _)]
    exact eight_at A k hk
  · rw [cell_of_row _ (w2.heap.size + 1) k eightN 9 (0, 0) (heap_alloc2_new w2 _ _)]
    exact eightN_at k hk
theorem NRow.keep {w w1 w2 : World} {A : Nat → Addr} {g1 g2 : Nat} (h : NRow w A g1 g2 w1) (hb : Below w1.heap.size w1 w2) : NRow w A g1 g2 w2 :=
  ⟨h.errs.keep hb, fun k hk => (hb.cell (World.block_lt_of_cell? _ _ (h.e k hk))).trans (h.e k hk), fun k hk => (hb.cell (World.block_lt_of_cell? _ _ (h.t k hk))).trans (h.t k hk), h.old.trans (hb.mono h.old.size)⟩
theorem NRow.str {w w1 : World} {A : Nat → Addr} {g1 g2 : Nat} (h : NRow w A g1 g2 w1) (k : Nat) (hk : k < 8) : w1.cell? (A k) = some (.string ⟨(errT k).toArray⟩) := by
  obtain ⟨s, e, d⟩ := (h.errs.at_ k hk).str
  rw [e, ← d]
set_option maxHeartbeats 400000 in
theorem error_any (a : Addr) (s : ByteArray) (w : World) (h : w.cell? a = some (.string s)) :
    Calls Tryd.prog 60 #[.pointer (some a)] w fun e w' => e = .returned (.string s) ∧ w' = w := by
  go_enter Tryd.func60, Tryd.ntmps60
  go_wp2
  go_ret
  exact ⟨rfl, rfl⟩
set_option maxHeartbeats 400000 in
theorem new_any (s : ByteArray) (w : World) :
    Calls Tryd.prog 10 #[.string s] w fun e w' => e = .returned (errV ⟨w.heap.size, 0, none⟩) ∧ w' = w.alloc (.cells #[.string s] 65) := by
  go_enter Tryd.func10, Tryd.ntmps10
  go_wp2
  go_ret
  exact ⟨rfl, rfl⟩
theorem Tryd.nilError (a : Addr) (w : World) : (nilAhead 230 63 (.pointer (some a)) "Error").run Tryd.prog w = .ok (some false) w := by kernel_rfl
theorem Tryd.methodError (a : Addr) (w : World) : (method 230 63 (.pointer (some a)) "Error").run Tryd.prog w = .ok (60, .pointer (some a)) w := by kernel_rfl
theorem str_app (k : Nat) (hk : k < 8) : (⟨#[115, 104, 114, 101, 100, 99, 111, 108, 58, 32]⟩ : ByteArray) ++ ⟨(nmT k).toArray⟩ = ⟨(errT k).toArray⟩ := by
  apply ByteArray.ext
  rw [← nmT_err ⟨k, hk⟩]
  simp
theorem below_tr {a b c : World} (h1 : Below a.heap.size a b) (h2 : Below b.heap.size b c) : Below a.heap.size a c := h1.trans (h2.mono h1.size)
theorem nmT_len : ∀ i : Fin 8, (nmT i).length ≤ 5 := by decide
theorem cat_run (k : Nat) (hk : k < 8) (W : World) : (Op.stringOp .add ⟨#[115, 104, 114, 101, 100, 99, 111, 108, 58, 32]⟩ ⟨(nmT k).toArray⟩).run Tryd.prog W = .ok (.string ⟨(errT k).toArray⟩) W := by
  have h := nmT_len ⟨k, hk⟩
  rw [run_string_add_sum, str_app k hk]
  show 10 + (nmT k).toArray.size ≤ _
  simp only [List.size_toArray]
  simp only at h
  omega
set_option maxHeartbeats 8000000 in
set_option maxRecDepth 100000 in
theorem names_main (w : World) (A : Nat → Addr) (h : Errs w A) :
    Calls Tryd.prog 3 #[] w fun e w' => e = .returned (.bool true) ∧ Below w.heap.size w w' := by
  have HA : Hid (Errs w A) := h
  clear h
  have a1 : IntsAt (((w.alloc c17).alloc c17).alloc c9) (.slice (some ⟨w.heap.size, 0, none⟩) 17 17) ls17 := ((ints_new w ls17 3 17).alloc c17).alloc c9
  have a2 : IntsAt (((w.alloc c17).alloc c17).alloc c9) (.slice (some ⟨w.heap.size + 1, 0, none⟩) 17 17) ls17 := by
    exact (ints_new' (w.alloc c17) ls17 3 17 _ _ (by simp) rfl).alloc c9
  have a3 : IntsAt (((w.alloc c17).alloc c17).alloc c9) (.slice (some ⟨w.heap.size + 1 + 1, 0, none⟩) 9 9) ls9 := by
    exact ints_new' ((w.alloc c17).alloc c17) ls9 3 9 _ _ (by simp) rfl
  have b0 : Below w.heap.size w (((w.alloc c17).alloc c17).alloc c9) := (((Below.refl _ _).alloc (Nat.le_refl _) _).alloc (by simp) _).alloc (by simp; omega) _
  have K1 : Hid (Calls Tryd.prog 7 #[.slice (some ⟨w.heap.size, 0, none⟩) 17 17, .slice (some ⟨w.heap.size + 1, 0, none⟩) 17 17] (((w.alloc c17).alloc c17).alloc c9) fun e w' => e = .returned (.bool true) ∧ Below (((w.alloc c17).alloc c17).alloc c9).heap.size (((w.alloc c17).alloc c17).alloc c9) w') := sameInts_any _ _ _ ls17 ls17 a1 a2 (by decide)
  clear a1 a2
  go_enter Tryd.func3, Tryd.ntmps3
  go_wp2_with fail
  refine Calls.mono K1.out ?_
  rintro e w1 ⟨rfl, hb1⟩
  have b1 := b0.trans (hb1.mono b0.size)
  have a4 := a3.keep hb1
  have HX : Hid (IntsAt w1 (.slice (some ⟨w.heap.size + 1 + 1, 0, none⟩) 9 9) ls9) := a4
  clear a3 a4 b0 hb1 K1
  have K2 : Hid (Calls Tryd.prog 7 #[.slice (some ⟨w.heap.size + 1 + 1, 0, none⟩) 9 9, .slice (some ⟨w1.heap.size, 0, none⟩) 9 9] (w1.alloc c9) fun e w' => e = .returned (.bool true) ∧ Below (w1.alloc c9).heap.size (w1.alloc c9) w') := sameInts_any _ _ _ ls9 ls9 (HX.out.alloc c9) (ints_new w1 ls9 3 9) (by decide)
  go_wp2_with fail
  refine Calls.mono K2.out ?_
  rintro e w2 ⟨rfl, hb2⟩
  have b2 : Below w.heap.size w w2 := (b1.alloc b1.size _).trans (hb2.mono (by have := b1.size; simp; omega))
  have h2 := HA.out.keep b2
  have g0 := (h2.at_ 0 (by omega)).var
  have g1 := (h2.at_ 1 (by omega)).var
  have g2 := (h2.at_ 2 (by omega)).var
  have g3 := (h2.at_ 3 (by omega)).var
  have g4 := (h2.at_ 4 (by omega)).var
  have g5 := (h2.at_ 5 (by omega)).var
  have g6 := (h2.at_ 6 (by omega)).var
  have g7 := (h2.at_ 7 (by omega)).var
  simp only [errG] at g0 g1 g2 g3 g4 g5 g6 g7
  clear K2 hb2 b1 HX
  go_wp2_with fail
  clear g0 g1 g2 g3 g4 g5 g6 g7
  have HS : Hid (NRow w A w2.heap.size (w2.heap.size + 1) ((w2.alloc (.cells (eightV A) 25)).alloc (.cells eightN 9))) := NRow.start b2 h2
  clear h2 b2
  go_loopw [6] (fun x wr => ∃ k : Nat, k ≤ 8 ∧ x = .int .i64 k ∧ Hid (NRow w A w2.heap.size (w2.heap.size + 1) wr)) (fun x _ => 8 - (intOf x).toNat)
  case atStart => exact ⟨0, Nat.zero_le _, rfl, HS⟩
  case round =>
    obtain ⟨k, hk, rfl, HE⟩ := hrel
    clear HS
    by_cases hki : k < 8
    · have ek := HE.out.e k hki
      go_wp2_with fail
      have b3 : Below wr.heap.size wr (wr.alloc (.cells #[.int .i64 7, errV (A k)] 32)) := (Below.refl _ _).alloc (Nat.le_refl _) _
      refine (code_fault _ A (HE.out.keep b3).errs k wr.heap.size hki 7 (by simp) (by simp)).mono ?_
      rintro e w3 ⟨rfl, hb3⟩
      have HR : Hid (NRow w A w2.heap.size (w2.heap.size + 1) w3) := (HE.out.keep b3).keep hb3
      clear HE b3 hb3 ek
      have e3 := HR.out.e k hki
      have t3 := HR.out.t k hki
      have s3 := HR.out.str k hki
      have hcat : ∀ W : World, (Op.stringOp .add ⟨#[115, 104, 114, 101, 100, 99, 111, 108, 58, 32]⟩ ⟨(nmT k).toArray⟩).run Tryd.prog W = .ok (.string ⟨(errT k).toArray⟩) W := fun W => cat_run k hki W
      have hnl : ¬ 9223372036854775807 < 10 + (nmT k).length := by have := nmT_len ⟨k, hki⟩; simp only at this; omega
      have hap := str_app k hki
      have hw1 : IntKind.i64.wrap ((k : Int) + 1) = (k : Int) + 1 := by simp only [IntKind.wrap, IntKind.bits, IntKind.signed]; simp; omega
      have nE := Tryd.nilError
      have mE := Tryd.methodError
      have hl5 : (nmT k).length ≤ 5 := nmT_len ⟨k, hki⟩
      go_wp2_with fail
      have b30 : Below w3.heap.size w3 w3 := Below.refl _ _
      have HN : Hid (∀ W, Below w3.heap.size w3 W → W.cell? ⟨w2.heap.size, k, none⟩ = some (errV (A k)) ∧ W.cell? ⟨w2.heap.size + 1, k, none⟩ = some (.string ⟨(nmT k).toArray⟩) ∧ W.cell? (A k) = some (.string ⟨(errT k).toArray⟩) ∧ Below w3.heap.size w3 W) := fun W hW => ⟨(HR.out.keep hW).e k hki, (HR.out.keep hW).t k hki, (HR.out.keep hW).str k hki, hW⟩
      go_region_held3 (fun W => W.cell? ⟨w2.heap.size, k, none⟩ = some (errV (A k)) ∧ W.cell? ⟨w2.heap.size + 1, k, none⟩ = some (.string ⟨(nmT k).toArray⟩) ∧ W.cell? (A k) = some (.string ⟨(errT k).toArray⟩) ∧ Below w3.heap.size w3 W) (first | (refine HN.out _ ?_; assumption) | (refine HN.out _ ?_; exact b30.drew) | (refine HN.out _ (below_tr ?_ hb'); assumption) | (refine HN.out _ (below_tr ?_ hb'); exact b30.drew)) (first | (go_at_call 60; refine (error_any (A k) ⟨(errT k).toArray⟩ _ ?_).mono ?_; assumption; rintro e w' ⟨rfl, rfl⟩) | (go_at_call 9; refine (coded_sent _ A ?_ k hki _ true ?_).mono ?_; (refine (HR.out.keep ?_).errs; first | assumption | exact b30.drew); simp; rintro e w' ⟨rfl, hb'⟩))
      all_goals
        obtain ⟨_, _, _, hbb⟩ := ‹_ ∧ _ ∧ _ ∧ Below w3.heap.size w3 _›
        have HF : Hid (NRow w A w2.heap.size (w2.heap.size + 1) w') := HR.out.keep hbb
        clear HR HN hcat hnl hap nE mE hbb b30 e3 t3 s3
        go_wp2
        go_roundw
        case rel => exact ⟨k + 1, by omega, by go_num, HF⟩
        case measure => simp [intOf]; omega
    · have b3 : Below wr.heap.size wr (wr.alloc (.cells #[.string ⟨#[97, 110, 111, 116, 104, 101, 114, 32, 111, 110, 101]⟩] 65)) := (Below.refl _ _).alloc (Nat.le_refl _) _
      have HN : Hid (∀ i, i < 8 → (⟨wr.heap.size, 0, none⟩ : Addr) ≠ A i) := fun i hi e => by
        obtain ⟨s, hs, _⟩ := (HE.out.errs.at_ i hi).str
        have hl := World.block_lt_of_cell? wr _ hs
        rw [← e] at hl
        exact absurd hl (Nat.lt_irrefl _)
      have hN := heap_alloc_new wr (.cells #[.string ⟨#[97, 110, 111, 116, 104, 101, 114, 32, 111, 110, 101]⟩] 65)
      go_wp2_with fail
      refine (new_any _ _).mono ?_
      rintro e w4 ⟨rfl, hw4⟩
      subst hw4
      go_wp2_with fail
      refine (code_new _ A (HE.out.keep b3).errs ⟨wr.heap.size, 0, none⟩ _ _ hN HN.out).mono ?_
      rintro e w5 ⟨rfl, hb5⟩
      have b5 := HE.out.old.trans ((b3.trans (hb5.mono b3.size)).mono HE.out.old.size)
      clear hN hb5
      go_wp2_with fail
      refine (coded_nil _ 0 true rfl).mono ?_
      rintro e w6 ⟨rfl, hw6⟩
      subst hw6
      go_wp2
      go_ret
      exact ⟨rfl, b5⟩
theorem names_walk (w : World) (hL : laidMetH Tryd.prog Rows.namesRow.laid w) :
    Calls Tryd.prog 3 #[] w fun e w' => e = .returned (.bool true) ∧ Below w.heap.size w w' := by
  obtain ⟨A, hA⟩ := errs_of hL
  exact names_main w A hA
end Go.Proofs.YtfdcadlhapcddaaDoor
