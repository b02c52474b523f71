/-
  schema.shapesAreRight, schema.isRoot: exact.
-/
import Derived.Test.YtopagfjimbdbdaaGreatDoorPWkS
import Derived.Test.YtopagfjimbdbdaaGreatDoorPInB
namespace Go.Proofs.YtopagfjimbdbdaaGreatDoor
open Go.RowKit
set_option maxRecDepth 100000 in
set_option maxHeartbeats 1600000 in
theorem isRep_any (r : Int) (W : World) : Calls Tryz.prog 33 #[.int .i64 r] W fun e w' => e = .returned (.bool (decide (1 ≤ r ∧ r ≤ 3))) ∧ w' = W := by
  by_cases h1 : (1 : Int) ≤ r
  all_goals
    by_cases h2 : r ≤ (3 : Int)
    all_goals
      go_enter Tryz.func33, Tryz.ntmps33
      go_wp2
      go_ret
      simp [h1, h2]
set_option maxRecDepth 100000 in
set_option maxHeartbeats 1600000 in
theorem isKind_any (r : Int) (W : World) : Calls Tryz.prog 34 #[.int .i64 r] W fun e w' => e = .returned (.bool (decide (0 ≤ r ∧ r ≤ 5))) ∧ w' = W := by
  by_cases h1 : (0 : Int) ≤ r
  all_goals
    by_cases h2 : r ≤ (5 : Int)
    all_goals
      go_enter Tryz.func34, Tryz.ntmps34
      go_wp2
      go_ret
      simp [h1, h2]
def shpOk (t : Tr) : Bool := decide (1 ≤ t.rep ∧ t.rep ≤ 3) && decide (0 ≤ t.kind ∧ t.kind ≤ 5) && (decide (t.kind = 0) == decide (0 < t.sub.length))
def stS (_ : Unit) (_ : List Tr) (t : Tr) : Bool × Unit := (shpOk t, ())
set_option maxRecDepth 100000 in
set_option maxHeartbeats 1600000 in
theorem shp1_any (t : Tr) (a : Option Addr) (c : Nat) (va : Option Addr) (vn vc : Nat) (W : World) :
    Calls Tryz.prog 32 #[nodeV t a c, .slice va vn vc] W fun e w' => e = .returned (.bool (shpOk t)) ∧ Below W.heap.size W w' := by
  have HB : Hid (Below W.heap.size W (W.alloc (.cells #[.int .i64 t.id, .string t.nm, .int .i64 t.rep, .int .i64 t.kind, .slice a t.sub.length c] 24)).drew) := ((Below.refl _ _).alloc (Nat.le_refl _) _).drew
  obtain ⟨br, HR⟩ : ∃ br, Hid (decide (1 ≤ t.rep ∧ t.rep ≤ 3) = br) := ⟨_, rfl⟩
  obtain ⟨bk, HK⟩ : ∃ bk, Hid (decide (0 ≤ t.kind ∧ t.kind ≤ 5) = bk) := ⟨_, rfl⟩
  have HE : Hid (shpOk t = (br && bk && ((t.kind == 0) == decide (0 < t.sub.length)))) := (by
    show _ = _
    rw [shpOk, HR.out, HK.out]
    congr 2)
  go_enter Tryz.func32, Tryz.ntmps32
  go_wp2
  go_region
  go_wp2_with fail
  refine (isRep_any t.rep _).mono ?_
  rintro e w1 ⟨rfl, rfl⟩
  rw [HR.out]
  cases br with
  | false =>
    go_wp2
    go_ret
    exact ⟨by rw [HE.out]; simp, HB.out⟩
  | true =>
    go_wp2_with fail
    refine (isKind_any t.kind _).mono ?_
    rintro e w1 ⟨rfl, rfl⟩
    rw [HK.out]
    cases bk with
    | false =>
      go_wp2
      go_ret
      exact ⟨by rw [HE.out]; simp, HB.out⟩
    | true =>
      go_wp2
      go_ret
      exact ⟨by rw [HE.out]; simp, HB.out⟩
def shpT (t : Tr) : Bool := (wkT stS () [] t).1
set_option maxRecDepth 100000 in
set_option maxHeartbeats 1600000 in
theorem shapes_any (t : Tr) (n : Nat) (hd : t.Dp n) (hn : n ≤ 1100000) (hs : t.Sm) (a : Option Addr) (c : Nat) (P : Nat → Prop) (W : World) (hl : LiesN W P a t.sub) (hcap : t.sub.length ≤ c) :
    Calls Tryz.prog 19 #[nodeV t a c] W fun e w' => e = .returned (.bool (shpT t)) ∧ Below W.heap.size W w' := by
  have hb : Below W.heap.size W (W.alloc (.cells #[.int .i64 t.id, .string t.nm, .int .i64 t.rep, .int .i64 t.kind, .slice a t.sub.length c] 24)) := (Below.refl _ _).alloc (Nat.le_refl _) _
  have HC : Hid _ := wkS_any stS (fun _ _ => True) (fun _ _ => True) (fun _ _ => True) (fun _ => 0) t.cnt W.heap.size (W.heap.size + 1) (by omega) (fun _ _ _ _ _ _ _ => trivial)
    (fun _ _ _ _ _ => trivial) (fun _ _ _ => Nat.zero_le _)
    (fun s path t a c v W' _ _ h1 h2 h3 hcap h4 h5 => by
      obtain ⟨va, vc, rfl⟩ := h2.shape
      exact (shp1_any t a c va path.length vc W').mono fun e w' h => ⟨h.1, fun _ => trivial, fun _ => trivial, VFr.of_below h.2 (by omega)⟩)
    n t hd hs () [] a c (.slice none 0 0) (W.alloc (.cells #[.int .i64 t.id, .string t.nm, .int .i64 t.rep, .int .i64 t.kind, .slice a t.sub.length c] 24)) trivial (by simp) (by simp; omega) trivial (PathR.nil _ _ _) (hl.stay (fun b _ h => h) (fun b _ h => hb.block b h)) hcap (by simp)
  have HB : Hid _ := hb
  clear hl hd hs hb
  go_enter Tryz.func19, Tryz.ntmps19
  go_wp2_with fail
  refine Calls.mono HC.out ?_
  rintro e w1 ⟨rfl, _, _, hf, _⟩
  have HF : Hid _ := hf.below
  clear hf
  go_wp2
  go_ret
  exact ⟨rfl, HB.out.trans HF.out⟩
def isRootB (t : Tr) : Bool := decide (t.id = 0 ∧ t.nm.toList = [114, 111, 111, 116] ∧ t.rep = 1 ∧ t.kind = 0)
set_option maxRecDepth 100000 in
set_option maxHeartbeats 1600000 in
theorem isRoot_vals (id rep kind : Int) (nm : ByteArray) (a : Option Addr) (n c : Nat) (W : World) :
    Calls Tryz.prog 18 #[.agg #[.int .i64 id, .string nm, .int .i64 rep, .int .i64 kind, .slice a n c]] W fun e w' => e = .returned (.bool (decide (id = 0 ∧ nm.toList = [114, 111, 111, 116] ∧ rep = 1 ∧ kind = 0))) ∧ Below W.heap.size W w' := by
  have HB : Hid (Below W.heap.size W (W.alloc (.cells #[.int .i64 id, .string nm, .int .i64 rep, .int .i64 kind, .slice a n c] 24))) := (Below.refl _ _).alloc (Nat.le_refl _) _
  by_cases h1 : id = 0
  · by_cases h2 : nm.toList = [114, 111, 111, 116]
    · by_cases h3 : rep = 1
      · by_cases h4 : kind = 0
        · have HE : Hid (decide (id = 0 ∧ nm.toList = [114, 111, 111, 116] ∧ rep = 1 ∧ kind = 0) = true) := (by show _ = _; simp [h1, h2, h3, h4])
          subst h1 h3 h4
          have h2b : (nm.toList == [114, 111, 111, 116]) = true := by simp [h2]
          go_enter Tryz.func18, Tryz.ntmps18
          go_wp2
          go_ret
          exact ⟨by first | rfl | (rw [HE.out]; rfl), HB.out⟩
        · have HE : Hid (decide (id = 0 ∧ nm.toList = [114, 111, 111, 116] ∧ rep = 1 ∧ kind = 0) = false) := (by show _ = _; simp [h4])
          subst h1 h3
          have h2b : (nm.toList == [114, 111, 111, 116]) = true := by simp [h2]
          have h4b : (kind == 0) = false := by simp [h4]
          go_enter Tryz.func18, Tryz.ntmps18
          go_wp2
          go_ret
          exact ⟨by first | rfl | (rw [HE.out]; rfl), HB.out⟩
      · have HE : Hid (decide (id = 0 ∧ nm.toList = [114, 111, 111, 116] ∧ rep = 1 ∧ kind = 0) = false) := (by show _ = _; simp [h3])
        subst h1
        have h2b : (nm.toList == [114, 111, 111, 116]) = true := by simp [h2]
        have h3b : (rep == 1) = false := by simp [h3]
        go_enter Tryz.func18, Tryz.ntmps18
        go_wp2
        go_ret
        exact ⟨by first | rfl | (rw [HE.out]; rfl), HB.out⟩
    · have HE : Hid (decide (id = 0 ∧ nm.toList = [114, 111, 111, 116] ∧ rep = 1 ∧ kind = 0) = false) := (by show _ = _; simp [h2])
      subst h1
      have h2b : (nm.toList == [114, 111, 111, 116]) = false := by simp [h2]
      go_enter Tryz.func18, Tryz.ntmps18
      go_wp2
      go_ret
      exact ⟨by first | rfl | (rw [HE.out]; rfl), HB.out⟩
  · have HE : Hid (decide (id = 0 ∧ nm.toList = [114, 111, 111, 116] ∧ rep = 1 ∧ kind = 0) = false) := (by show _ = _; simp [h1])
    have h1b : (id == 0) = false := by simp [h1]
    go_enter Tryz.func18, Tryz.ntmps18
    go_wp2
    go_ret
    exact ⟨by first | rfl | (rw [HE.out]; rfl), HB.out⟩
theorem isRoot_any (t : Tr) (a : Option Addr) (c : Nat) (W : World) :
    Calls Tryz.prog 18 #[nodeV t a c] W fun e w' => e = .returned (.bool (isRootB t)) ∧ Below W.heap.size W w' := isRoot_vals t.id t.rep t.kind t.nm a t.sub.length c W
end Go.Proofs.YtopagfjimbdbdaaGreatDoor
