/-
  schema.inBounds: not too many nodes, not too deep.
  schema.shapesAreRight, schema.isRoot: exact.
-/
import Derived.Test.YtmfijliladancaaGreatDoorXBWkI
import Derived.Test.YtmfijliladancaaGreatDoorXBWkM
namespace Go.Proofs.YtmfijliladancaaGreatDoor
open Go.RowKit
def stB (m : Nat) (path : List Tr) (_ : Tr) : Bool × Nat := (decide (m + 1 ≤ 40 ∧ path.length < 6), m + 1)
/-- What the visitor holds: how many there were. -/
def cntI (g : Nat) (m : Nat) (W : World) : Prop := m ≤ 40 ∧ W.heap[g]? = some (.cells #[.int .i64 (m : Nat)] 3 (0, 0))
theorem row_one {w : World} {g e : Nat} {x : Value} (h : w.heap[g]? = some (.cells #[x] e (0, 0))) : w.cell? ⟨g, 0, none⟩ = some x ∧ w.frozen? ⟨g, 0, none⟩ = false := by
  constructor <;> simp [World.cell?, World.frozen?, h]
theorem row_setOne {w : World} {g e : Nat} {x v : Value} (h : w.heap[g]? = some (.cells #[x] e (0, 0))) : (w.setCell ⟨g, 0, none⟩ v).heap[g]? = some (.cells #[v] e (0, 0)) := by
  have := row_setC (j := 0) (v := v) h
  simpa using this
set_option maxRecDepth 100000 in
set_option maxHeartbeats 1600000 in
theorem inB1_any (g B Bw : Nat) (hg : g < Bw) (hB : B ≤ g) (m : Nat) (path : List Tr) (t : Tr) (a : Option Addr) (c : Nat) (v : Value) (W : World) (hi : cntI g m W) (hp : PathR W B Bw v path) (hbw : Bw ≤ W.heap.size) :
    Calls Tryz.prog 41 #[nodeV t a c, v, .pointer (some ⟨g, 0, none⟩)] W fun e w' => e = .returned (.bool (stB m path t).1) ∧ ((stB m path t).1 = true → cntI g (stB m path t).2 w') ∧ ((stB m path t).1 = false → True) ∧ VFr B Bw W w' := by
  obtain ⟨va, vc, rfl⟩ := hp.shape
  obtain ⟨hm, hc⟩ := hi
  obtain ⟨c0, f0⟩ := row_one (blk_alloc (o' := .cells #[.int .i64 t.id, .string t.nm, .int .i64 t.rep, .int .i64 t.kind, .slice a t.sub.length c] 24) hc)
  have HC : Hid _ := hc
  clear hp hc
  have HV : Hid (∀ x, VFr B Bw W ((W.alloc (.cells #[.int .i64 t.id, .string t.nm, .int .i64 t.rep, .int .i64 t.kind, .slice a t.sub.length c] 24)).setCell ⟨g, 0, none⟩ x)) := fun x => ((VFr.refl B Bw W).alloc (by omega) _).setG hB hg x
  have HR : Hid (∀ x, ((W.alloc (.cells #[.int .i64 t.id, .string t.nm, .int .i64 t.rep, .int .i64 t.kind, .slice a t.sub.length c] 24)).setCell ⟨g, 0, none⟩ x).heap[g]? = some (.cells #[x] 3 (0, 0))) := fun x => row_setOne (blk_alloc HC.out)
  by_cases h40 : m + 1 ≤ 40
  · have q : decide ((m : Int) + 1 ≤ 40) = true := by simp; omega
    by_cases h6 : path.length < 6
    · have q2 : decide ((path.length : Int) < 6) = true := by simp; omega
      have HE : Hid (stB m path t = (true, m + 1)) := (by show _ = _; simp [stB, h40, h6])
      go_enter Tryz.func41, Tryz.ntmps41
      go_wp2
      go_ret
      rw [HE.out]
      exact ⟨rfl, fun _ => ⟨h40, by simpa using HR.out _⟩, fun h => by simp at h, HV.out _⟩
    · have q2 : decide ((path.length : Int) < 6) = false := by simp; omega
      have HE : Hid (stB m path t = (false, m + 1)) := (by show _ = _; simp [stB, h6])
      go_enter Tryz.func41, Tryz.ntmps41
      go_wp2
      go_ret
      rw [HE.out]
      exact ⟨rfl, fun h => by simp at h, fun _ => trivial, HV.out _⟩
  · have q : decide ((m : Int) + 1 ≤ 40) = false := by simp; omega
    have HE : Hid (stB m path t = (false, m + 1)) := (by show _ = _; simp [stB]; omega)
    go_enter Tryz.func41, Tryz.ntmps41
    go_wp2
    go_ret
    rw [HE.out]
    exact ⟨rfl, fun h => by simp at h, fun _ => trivial, HV.out _⟩
def inB (t : Tr) : Bool := (wkT stB 0 [] t).1
set_option maxRecDepth 100000 in
set_option maxHeartbeats 1600000 in
theorem inBounds_any (t : Tr) (n : Nat) (hd : t.Dp n) (hn : n ≤ 1100000) (hs : t.Sm) (a : Option Addr) (c : Nat) (P : Nat → Prop) (W : World) (hl : LiesN W P a t.sub) (hcap : t.sub.length ≤ c) :
    Calls Tryz.prog 25 #[nodeV t a c] W fun e w' => e = .returned (.bool (inB t)) ∧ Below W.heap.size W w' := by
  have hb : Below W.heap.size W (((W.alloc (.cells #[.int .i64 t.id, .string t.nm, .int .i64 t.rep, .int .i64 t.kind, .slice a t.sub.length c] 24)).alloc (.cells #[.int .i64 0] 3))) := ((Below.refl _ _).alloc (Nat.le_refl _) _).alloc (by simp) _
  have HC : Hid _ := wkB_any stB (cntI (W.heap.size + 1)) (fun _ _ => True) (fun _ _ => True) (fun _ => 0) t.cnt (W.heap.size + 1) W.heap.size (W.heap.size + 2) (by omega)
    (fun s W' w' r hi hg hr => ⟨hi.1, by
      have hlt := lt_of_block hi.2
      rw [hg.block _ hlt (fun e => by have := (hr _ e.symm).1; omega)]
      exact hi.2⟩)
    (fun _ _ _ _ _ => trivial) (fun _ _ _ => Nat.zero_le _)
    (fun s path t a c v W' _ _ h1 h2 h3 hcap h4 h5 => inB1_any (W.heap.size + 1) W.heap.size (W.heap.size + 2) (by omega) (by omega) s path t a c v W' h1 h2 h5)
    n t hd hs 0 [] a c (.slice none 0 0) ((W.alloc (.cells #[.int .i64 t.id, .string t.nm, .int .i64 t.rep, .int .i64 t.kind, .slice a t.sub.length c] 24)).alloc (.cells #[.int .i64 0] 3)) trivial (by simp) (by simp; omega)
    ⟨by omega, by simpa using heap_alloc_new (W.alloc (.cells #[.int .i64 t.id, .string t.nm, .int .i64 t.rep, .int .i64 t.kind, .slice a t.sub.length c] 24)) (.cells #[.int .i64 0] 3)⟩ (PathR.nil _ _ _) (hl.stay (fun b _ h => h) (fun b _ h => hb.block b h)) hcap (by simp)
  have HB : Hid _ := hb
  clear hl hd hs hb
  go_enter Tryz.func25, Tryz.ntmps25
  go_wp2_with fail
  refine Calls.mono HC.out ?_
  rintro e w1 ⟨rfl, _, _, hf, _⟩
  have HF : Hid _ := hf.below
  clear hf
  go_wp2
  go_ret
  exact ⟨rfl, HB.out.trans HF.out⟩
end Go.Proofs.YtmfijliladancaaGreatDoor

namespace Go.Proofs.YtmfijliladancaaGreatDoor
open Go.RowKit
set_option maxRecDepth 100000 in
set_option maxHeartbeats 1600000 in
theorem isRep_any (r : Int) (W : World) : Calls Tryz.prog 43 #[.int .i64 r] W fun e w' => e = .returned (.bool (decide (1 ≤ r ∧ r ≤ 3))) ∧ w' = W := by
  by_cases h1 : (1 : Int) ≤ r
  all_goals
    by_cases h2 : r ≤ (3 : Int)
    all_goals
      go_enter Tryz.func43, Tryz.ntmps43
      go_wp2
      go_ret
      simp [h1, h2]
set_option maxRecDepth 100000 in
set_option maxHeartbeats 1600000 in
theorem isKind_any (r : Int) (W : World) : Calls Tryz.prog 44 #[.int .i64 r] W fun e w' => e = .returned (.bool (decide (0 ≤ r ∧ r ≤ 5))) ∧ w' = W := by
  by_cases h1 : (0 : Int) ≤ r
  all_goals
    by_cases h2 : r ≤ (5 : Int)
    all_goals
      go_enter Tryz.func44, Tryz.ntmps44
      go_wp2
      go_ret
      simp [h1, h2]
def shpOk (t : Tr) : Bool := decide (1 ≤ t.rep ∧ t.rep ≤ 3) && decide (0 ≤ t.kind ∧ t.kind ≤ 5) && (decide (t.kind = 0) == decide (0 < t.sub.length))
def stS (_ : Unit) (_ : List Tr) (t : Tr) : Bool × Unit := (shpOk t, ())
set_option maxRecDepth 100000 in
set_option maxHeartbeats 1600000 in
theorem shp1_any (t : Tr) (a : Option Addr) (c : Nat) (va : Option Addr) (vn vc : Nat) (W : World) :
    Calls Tryz.prog 42 #[nodeV t a c, .slice va vn vc] W fun e w' => e = .returned (.bool (shpOk t)) ∧ Below W.heap.size W w' := by
  have HB : Hid (Below W.heap.size W (W.alloc (.cells #[.int .i64 t.id, .string t.nm, .int .i64 t.rep, .int .i64 t.kind, .slice a t.sub.length c] 24)).drew) := ((Below.refl _ _).alloc (Nat.le_refl _) _).drew
  obtain ⟨br, HR⟩ : ∃ br, Hid (decide (1 ≤ t.rep ∧ t.rep ≤ 3) = br) := ⟨_, rfl⟩
  obtain ⟨bk, HK⟩ : ∃ bk, Hid (decide (0 ≤ t.kind ∧ t.kind ≤ 5) = bk) := ⟨_, rfl⟩
  have HE : Hid (shpOk t = (br && bk && ((t.kind == 0) == decide (0 < t.sub.length)))) := (by
    show _ = _
    rw [shpOk, HR.out, HK.out]
    congr 2)
  go_enter Tryz.func42, Tryz.ntmps42
  go_wp2
  go_region
  go_wp2_with fail
  refine (isRep_any t.rep _).mono ?_
  rintro e w1 ⟨rfl, rfl⟩
  rw [HR.out]
  cases br with
  | false =>
    go_wp2
    go_ret
    exact ⟨by rw [HE.out]; simp, HB.out⟩
  | true =>
    go_wp2_with fail
    refine (isKind_any t.kind _).mono ?_
    rintro e w1 ⟨rfl, rfl⟩
    rw [HK.out]
    cases bk with
    | false =>
      go_wp2
      go_ret
      exact ⟨by rw [HE.out]; simp, HB.out⟩
    | true =>
      go_wp2
      go_ret
      exact ⟨by rw [HE.out]; simp, HB.out⟩
def shpT (t : Tr) : Bool := (wkT stS () [] t).1
set_option maxRecDepth 100000 in
set_option maxHeartbeats 1600000 in
theorem shapes_any (t : Tr) (n : Nat) (hd : t.Dp n) (hn : n ≤ 1100000) (hs : t.Sm) (a : Option Addr) (c : Nat) (P : Nat → Prop) (W : World) (hl : LiesN W P a t.sub) (hcap : t.sub.length ≤ c) :
    Calls Tryz.prog 27 #[nodeV t a c] W fun e w' => e = .returned (.bool (shpT t)) ∧ Below W.heap.size W w' := by
  have hb : Below W.heap.size W (W.alloc (.cells #[.int .i64 t.id, .string t.nm, .int .i64 t.rep, .int .i64 t.kind, .slice a t.sub.length c] 24)) := (Below.refl _ _).alloc (Nat.le_refl _) _
  have HC : Hid _ := wkS_any stS (fun _ _ => True) (fun _ _ => True) (fun _ _ => True) (fun _ => 0) t.cnt W.heap.size (W.heap.size + 1) (by omega) (fun _ _ _ _ _ _ _ => trivial)
    (fun _ _ _ _ _ => trivial) (fun _ _ _ => Nat.zero_le _)
    (fun s path t a c v W' _ _ h1 h2 h3 hcap h4 h5 => by
      obtain ⟨va, vc, rfl⟩ := h2.shape
      exact (shp1_any t a c va path.length vc W').mono fun e w' h => ⟨h.1, fun _ => trivial, fun _ => trivial, VFr.of_below h.2 (by omega)⟩)
    n t hd hs () [] a c (.slice none 0 0) (W.alloc (.cells #[.int .i64 t.id, .string t.nm, .int .i64 t.rep, .int .i64 t.kind, .slice a t.sub.length c] 24)) trivial (by simp) (by simp; omega) trivial (PathR.nil _ _ _) (hl.stay (fun b _ h => h) (fun b _ h => hb.block b h)) hcap (by simp)
  have HB : Hid _ := hb
  clear hl hd hs hb
  go_enter Tryz.func27, Tryz.ntmps27
  go_wp2_with fail
  refine Calls.mono HC.out ?_
  rintro e w1 ⟨rfl, _, _, hf, _⟩
  have HF : Hid _ := hf.below
  clear hf
  go_wp2
  go_ret
  exact ⟨rfl, HB.out.trans HF.out⟩
def isRootB (t : Tr) : Bool := decide (t.id = 0 ∧ t.nm.toList = [114, 111, 111, 116] ∧ t.rep = 1 ∧ t.kind = 0)
set_option maxRecDepth 100000 in
set_option maxHeartbeats 1600000 in
theorem isRoot_vals (id rep kind : Int) (nm : ByteArray) (a : Option Addr) (n c : Nat) (W : World) :
    Calls Tryz.prog 26 #[.agg #[.int .i64 id, .string nm, .int .i64 rep, .int .i64 kind, .slice a n c]] W fun e w' => e = .returned (.bool (decide (id = 0 ∧ nm.toList = [114, 111, 111, 116] ∧ rep = 1 ∧ kind = 0))) ∧ Below W.heap.size W w' := by
  have HB : Hid (Below W.heap.size W (W.alloc (.cells #[.int .i64 id, .string nm, .int .i64 rep, .int .i64 kind, .slice a n c] 24))) := (Below.refl _ _).alloc (Nat.le_refl _) _
  by_cases h1 : id = 0
  · by_cases h2 : nm.toList = [114, 111, 111, 116]
    · by_cases h3 : rep = 1
      · by_cases h4 : kind = 0
        · have HE : Hid (decide (id = 0 ∧ nm.toList = [114, 111, 111, 116] ∧ rep = 1 ∧ kind = 0) = true) := (by show _ = _; simp [h1, h2, h3, h4])
          subst h1 h3 h4
          have h2b : (nm.toList == [114, 111, 111, 116]) = true := by simp [h2]
          go_enter Tryz.func26, Tryz.ntmps26
          go_wp2
          go_ret
          exact ⟨by first | rfl | (rw [HE.out]; rfl), HB.out⟩
        · have HE : Hid (decide (id = 0 ∧ nm.toList = [114, 111, 111, 116] ∧ rep = 1 ∧ kind = 0) = false) := (by show _ = _; simp [h4])
          subst h1 h3
          have h2b : (nm.toList == [114, 111, 111, 116]) = true := by simp [h2]
          have h4b : (kind == 0) = false := by simp [h4]
          go_enter Tryz.func26, Tryz.ntmps26
          go_wp2
          go_ret
          exact ⟨by first | rfl | (rw [HE.out]; rfl), HB.out⟩
      · have HE : Hid (decide (id = 0 ∧ nm.toList = [114, 111, 111, 116] ∧ rep = 1 ∧ kind = 0) = false) := (by show _ = _; simp [h3])
        subst h1
        have h2b : (nm.toList == [114, 111, 111, 116]) = true := by simp [h2]
        have h3b : (rep == 1) = false := by simp [h3]
        go_enter Tryz.func26, Tryz.ntmps26
        go_wp2
        go_ret
        exact ⟨by first | rfl | (rw [HE.out]; rfl), HB.out⟩
    · have HE : Hid (decide (id = 0 ∧ nm.toList = [114, 111, 111, 116] ∧ rep = 1 ∧ kind = 0) = false) := (by show _ = _; simp [h2])
      subst h1
      have h2b : (nm.toList == [114, 111, 111, 116]) = false := by simp [h2]
      go_enter Tryz.func26, Tryz.ntmps26
      go_wp2
      go_ret
      exact ⟨by first | rfl | (rw [HE.out]; rfl), HB.out⟩
  · have HE : Hid (decide (id = 0 ∧ nm.toList = [114, 111, 111, 116] ∧ rep = 1 ∧ kind = 0) = false) := (by show _ = _; simp [h1])
    have h1b : (id == 0) = false := by simp [h1]
    go_enter Tryz.func26, Tryz.ntmps26
    go_wp2
    go_ret
    exact ⟨by first | rfl | (rw [HE.out]; rfl), HB.out⟩
theorem isRoot_any (t : Tr) (a : Option Addr) (c : Nat) (W : World) :
    Calls Tryz.prog 26 #[nodeV t a c] W fun e w' => e = .returned (.bool (isRootB t)) ∧ Below W.heap.size W w' := isRoot_vals t.id t.rep t.kind t.nm a t.sub.length c W
end Go.Proofs.YtmfijliladancaaGreatDoor
