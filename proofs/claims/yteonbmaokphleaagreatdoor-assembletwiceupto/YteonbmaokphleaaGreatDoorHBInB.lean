/-
  schema.inBounds: not too many nodes, not too deep.
  schema.shapesAreRight, schema.isRoot: exact.
  The reference's flat list, told where its places' nodes lie.
  schema.namesAreRight: exact.
  schema.namesAreRight: exact.
-/
import Derived.Test.YteonbmaokphleaaGreatDoorHBWalkP
import Derived.Test.YteonbmaokphleaaGreatDoorHBOwnN
namespace Go.Proofs.YteonbmaokphleaaGreatDoor
open Go.RowKit
def stB (m : Nat) (path : List Tr) (_ : Tr) : Bool × Nat := (decide (m + 1 ≤ 40 ∧ path.length < 6), m + 1)
def cntI (g : Nat) (m : Nat) (W : World) : Prop := m ≤ 40 ∧ W.heap[g]? = some (.cells #[.int .i64 (m : Nat)] 3 (0, 0))
theorem row_one {w : World} {g e : Nat} {x : Value} (h : w.heap[g]? = some (.cells #[x] e (0, 0))) : w.cell? ⟨g, 0, none⟩ = some x ∧ w.frozen? ⟨g, 0, none⟩ = false := by
 constructor <;> simp [World.cell?, World.frozen?, h]
theorem row_setOne {w : World} {g e : Nat} {x v : Value} (h : w.heap[g]? = some (.cells #[x] e (0, 0))) : (w.setCell ⟨g, 0, none⟩ v).heap[g]? = some (.cells #[v] e (0, 0)) := by
 have := row_setC (j := 0) (v := v) h
 simpa using this
set_option maxRecDepth 100000 in
set_option maxHeartbeats 1600000 in
theorem inB1_any (g B Bw : Nat) (hg : g < Bw) (hB : B ≤ g) (m : Nat) (path : List Tr) (t : Tr) (a : Option Addr) (c : Nat) (v : Value) (W : World) (hi : cntI g m W) (hp : PathR W B Bw v path) (hbw : Bw ≤ W.heap.size) :
    Calls Tryz.prog 94 #[nodeV t a c, v, .pointer (some ⟨g, 0, none⟩)] W fun e w' => e = .returned (.bool (stB m path t).1) ∧ ((stB m path t).1 = true → cntI g (stB m path t).2 w') ∧ ((stB m path t).1 = false → True) ∧ VFr B Bw W w' := by
 obtain ⟨va, vc, rfl⟩ := hp.shape
 obtain ⟨hm, hc⟩ := hi
 obtain ⟨c0, f0⟩ := row_one (blk_alloc (o' := .cells #[.int .i64 t.id, .string t.nm, .int .i64 t.rep, .int .i64 t.kind, .slice a t.sub.length c] 24) hc)
 have HC : Hid _ := hc
 clear hp hc
 have HV : Hid (∀ x, VFr B Bw W ((W.alloc (.cells #[.int .i64 t.id, .string t.nm, .int .i64 t.rep, .int .i64 t.kind, .slice a t.sub.length c] 24)).setCell ⟨g, 0, none⟩ x)) := fun x => ((VFr.refl B Bw W).alloc (by omega) _).setG hB hg x
 have HR : Hid (∀ x, ((W.alloc (.cells #[.int .i64 t.id, .string t.nm, .int .i64 t.rep, .int .i64 t.kind, .slice a t.sub.length c] 24)).setCell ⟨g, 0, none⟩ x).heap[g]? = some (.cells #[x] 3 (0, 0))) := fun x => row_setOne (blk_alloc HC.out)
 by_cases h40 : m + 1 ≤ 40
 · have q : decide ((m : Int) + 1 ≤ 40) = true := by simp; omega
   by_cases h6 : path.length < 6
   · have q2 : decide ((path.length : Int) < 6) = true := by simp; omega
     have HE : Hid (stB m path t = (true, m + 1)) := (by show _ = _; simp [stB, h40, h6])
     go_enter Tryz.func94, Tryz.ntmps94
     go_wp2
     go_ret
     rw [HE.out]
     exact ⟨rfl, fun _ => ⟨h40, by simpa using HR.out _⟩, fun h => by simp at h, HV.out _⟩
   · have q2 : decide ((path.length : Int) < 6) = false := by simp; omega
     have HE : Hid (stB m path t = (false, m + 1)) := (by show _ = _; simp [stB, h6])
     go_enter Tryz.func94, Tryz.ntmps94
     go_wp2
     go_ret
     rw [HE.out]
     exact ⟨rfl, fun h => by simp at h, fun _ => trivial, HV.out _⟩
 · have q : decide ((m : Int) + 1 ≤ 40) = false := by simp; omega
   have HE : Hid (stB m path t = (false, m + 1)) := (by show _ = _; simp [stB]; omega)
   go_enter Tryz.func94, Tryz.ntmps94
   go_wp2
   go_ret
   rw [HE.out]
   exact ⟨rfl, fun h => by simp at h, fun _ => trivial, HV.out _⟩
def inB (t : Tr) : Bool := (wkT stB 0 [] t).1
set_option maxRecDepth 100000 in
set_option maxHeartbeats 1600000 in
theorem inBounds_any (t : Tr) (n : Nat) (hd : t.Dp n) (hn : n ≤ 1100000) (hs : t.Sm) (a : Option Addr) (c : Nat) (P : Nat → Prop) (W : World) (hl : LiesN W P a t.sub) (hcap : t.sub.length ≤ c) :
    Calls Tryz.prog 62 #[nodeV t a c] W fun e w' => e = .returned (.bool (inB t)) ∧ Below W.heap.size W w' := by
 have hb : Below W.heap.size W (((W.alloc (.cells #[.int .i64 t.id, .string t.nm, .int .i64 t.rep, .int .i64 t.kind, .slice a t.sub.length c] 24)).alloc (.cells #[.int .i64 0] 3))) := ((Below.refl _ _).alloc (Nat.le_refl _) _).alloc (by simp) _
 have HC : Hid _ := wkB_any stB (cntI (W.heap.size + 1)) (fun _ _ => True) (fun _ _ => True) (fun _ => 0) t.cnt (W.heap.size + 1) W.heap.size (W.heap.size + 2) (by omega)
  (fun s W' w' r hi hg hr => ⟨hi.1, by
   have hlt := lt_of_block hi.2
   rw [hg.block _ hlt (fun e => by have := (hr _ e.symm).1; omega)]
   exact hi.2⟩)
  (fun _ _ _ _ _ => trivial) (fun _ _ _ => Nat.zero_le _)
  (fun s path t a c v W' _ _ h1 h2 h3 hcap h4 h5 => inB1_any (W.heap.size + 1) W.heap.size (W.heap.size + 2) (by omega) (by omega) s path t a c v W' h1 h2 h5)
  n t hd hs 0 [] a c (.slice none 0 0) ((W.alloc (.cells #[.int .i64 t.id, .string t.nm, .int .i64 t.rep, .int .i64 t.kind, .slice a t.sub.length c] 24)).alloc (.cells #[.int .i64 0] 3)) trivial (by simp) (by simp; omega)
  ⟨by omega, by simpa using heap_alloc_new (W.alloc (.cells #[.int .i64 t.id, .string t.nm, .int .i64 t.rep, .int .i64 t.kind, .slice a t.sub.length c] 24)) (.cells #[.int .i64 0] 3)⟩ (PathR.nil _ _ _) (hl.stay (fun b _ h => h) (fun b _ h => hb.block b h)) hcap (by simp)
 have HB : Hid _ := hb
 clear hl hd hs hb
 go_enter Tryz.func62, Tryz.ntmps62
 go_wp2_with fail
 refine Calls.mono HC.out ?_
 rintro e w1 ⟨rfl, _, _, hf, _⟩
 have HF : Hid _ := hf.below
 clear hf
 go_wp2
 go_ret
 exact ⟨rfl, HB.out.trans HF.out⟩
set_option maxRecDepth 100000 in
set_option maxHeartbeats 1600000 in
theorem isRep_any (r : Int) (W : World) : Calls Tryz.prog 96 #[.int .i64 r] W fun e w' => e = .returned (.bool (decide (1 ≤ r ∧ r ≤ 3))) ∧ w' = W := by
 by_cases h1 : (1 : Int) ≤ r
 all_goals
  by_cases h2 : r ≤ (3 : Int)
  all_goals
   go_enter Tryz.func96, Tryz.ntmps96
   go_wp2
   go_ret
   simp [h1, h2]
set_option maxRecDepth 100000 in
set_option maxHeartbeats 1600000 in
theorem isKind_any (r : Int) (W : World) : Calls Tryz.prog 97 #[.int .i64 r] W fun e w' => e = .returned (.bool (decide (0 ≤ r ∧ r ≤ 5))) ∧ w' = W := by
 by_cases h1 : (0 : Int) ≤ r
 all_goals
  by_cases h2 : r ≤ (5 : Int)
  all_goals
   go_enter Tryz.func97, Tryz.ntmps97
   go_wp2
   go_ret
   simp [h1, h2]
def shpOk (t : Tr) : Bool := decide (1 ≤ t.rep ∧ t.rep ≤ 3) && decide (0 ≤ t.kind ∧ t.kind ≤ 5) && (decide (t.kind = 0) == decide (0 < t.sub.length))
def stS (_ : Unit) (_ : List Tr) (t : Tr) : Bool × Unit := (shpOk t, ())
set_option maxRecDepth 100000 in
set_option maxHeartbeats 1600000 in
theorem shp1_any (t : Tr) (a : Option Addr) (c : Nat) (va : Option Addr) (vn vc : Nat) (W : World) :
    Calls Tryz.prog 95 #[nodeV t a c, .slice va vn vc] W fun e w' => e = .returned (.bool (shpOk t)) ∧ Below W.heap.size W w' := by
 have HB : Hid (Below W.heap.size W (W.alloc (.cells #[.int .i64 t.id, .string t.nm, .int .i64 t.rep, .int .i64 t.kind, .slice a t.sub.length c] 24)).drew) := ((Below.refl _ _).alloc (Nat.le_refl _) _).drew
 obtain ⟨br, HR⟩ : ∃ br, Hid (decide (1 ≤ t.rep ∧ t.rep ≤ 3) = br) := ⟨_, rfl⟩
 obtain ⟨bk, HK⟩ : ∃ bk, Hid (decide (0 ≤ t.kind ∧ t.kind ≤ 5) = bk) := ⟨_, rfl⟩
 have HE : Hid (shpOk t = (br && bk && ((t.kind == 0) == decide (0 < t.sub.length)))) := (by
  show _ = _
  rw [shpOk, HR.out, HK.out]
  congr 2)
 go_enter Tryz.func95, Tryz.ntmps95
 go_wp2
 go_region
 go_wp2_with fail
 refine (isRep_any t.rep _).mono ?_
 rintro e w1 ⟨rfl, rfl⟩
 rw [HR.out]
 cases br with
 | false =>
  go_wp2
  go_ret
  exact ⟨by rw [HE.out]; simp, HB.out⟩
 | true =>
  go_wp2_with fail
  refine (isKind_any t.kind _).mono ?_
  rintro e w1 ⟨rfl, rfl⟩
  rw [HK.out]
  cases bk with
  | false =>
   go_wp2
   go_ret
   exact ⟨by rw [HE.out]; simp, HB.out⟩
  | true =>
   go_wp2
   go_ret
   exact ⟨by rw [HE.out]; simp, HB.out⟩
def shpT (t : Tr) : Bool := (wkT stS () [] t).1
set_option maxRecDepth 100000 in
set_option maxHeartbeats 1600000 in
theorem shapes_any (t : Tr) (n : Nat) (hd : t.Dp n) (hn : n ≤ 1100000) (hs : t.Sm) (a : Option Addr) (c : Nat) (P : Nat → Prop) (W : World) (hl : LiesN W P a t.sub) (hcap : t.sub.length ≤ c) :
    Calls Tryz.prog 64 #[nodeV t a c] W fun e w' => e = .returned (.bool (shpT t)) ∧ Below W.heap.size W w' := by
 have hb : Below W.heap.size W (W.alloc (.cells #[.int .i64 t.id, .string t.nm, .int .i64 t.rep, .int .i64 t.kind, .slice a t.sub.length c] 24)) := (Below.refl _ _).alloc (Nat.le_refl _) _
 have HC : Hid _ := wkS_any stS (fun _ _ => True) (fun _ _ => True) (fun _ _ => True) (fun _ => 0) t.cnt W.heap.size (W.heap.size + 1) (by omega) (fun _ _ _ _ _ _ _ => trivial)
  (fun _ _ _ _ _ => trivial) (fun _ _ _ => Nat.zero_le _)
  (fun s path t a c v W' _ _ h1 h2 h3 hcap h4 h5 => by
   obtain ⟨va, vc, rfl⟩ := h2.shape
   exact (shp1_any t a c va path.length vc W').mono fun e w' h => ⟨h.1, fun _ => trivial, fun _ => trivial, VFr.of_below h.2 (by omega)⟩)
  n t hd hs () [] a c (.slice none 0 0) (W.alloc (.cells #[.int .i64 t.id, .string t.nm, .int .i64 t.rep, .int .i64 t.kind, .slice a t.sub.length c] 24)) trivial (by simp) (by simp; omega) trivial (PathR.nil _ _ _) (hl.stay (fun b _ h => h) (fun b _ h => hb.block b h)) hcap (by simp)
 have HB : Hid _ := hb
 clear hl hd hs hb
 go_enter Tryz.func64, Tryz.ntmps64
 go_wp2_with fail
 refine Calls.mono HC.out ?_
 rintro e w1 ⟨rfl, _, _, hf, _⟩
 have HF : Hid _ := hf.below
 clear hf
 go_wp2
 go_ret
 exact ⟨rfl, HB.out.trans HF.out⟩
def isRootB (t : Tr) : Bool := decide (t.id = 0 ∧ t.nm.toList = [114, 111, 111, 116] ∧ t.rep = 1 ∧ t.kind = 0)
set_option maxRecDepth 100000 in
set_option maxHeartbeats 1600000 in
theorem isRoot_vals (id rep kind : Int) (nm : ByteArray) (a : Option Addr) (n c : Nat) (W : World) :
    Calls Tryz.prog 63 #[.agg #[.int .i64 id, .string nm, .int .i64 rep, .int .i64 kind, .slice a n c]] W fun e w' => e = .returned (.bool (decide (id = 0 ∧ nm.toList = [114, 111, 111, 116] ∧ rep = 1 ∧ kind = 0))) ∧ Below W.heap.size W w' := by
 have HB : Hid (Below W.heap.size W (W.alloc (.cells #[.int .i64 id, .string nm, .int .i64 rep, .int .i64 kind, .slice a n c] 24))) := (Below.refl _ _).alloc (Nat.le_refl _) _
 by_cases h1 : id = 0
 · by_cases h2 : nm.toList = [114, 111, 111, 116]
   · by_cases h3 : rep = 1
     · by_cases h4 : kind = 0
       · have HE : Hid (decide (id = 0 ∧ nm.toList = [114, 111, 111, 116] ∧ rep = 1 ∧ kind = 0) = true) := (by show _ = _; simp [h1, h2, h3, h4])
         subst h1 h3 h4
         have h2b : (nm.toList == [114, 111, 111, 116]) = true := by simp [h2]
         go_enter Tryz.func63, Tryz.ntmps63
         go_wp2
         go_ret
         exact ⟨by first | rfl | (rw [HE.out]; rfl), HB.out⟩
       · have HE : Hid (decide (id = 0 ∧ nm.toList = [114, 111, 111, 116] ∧ rep = 1 ∧ kind = 0) = false) := (by show _ = _; simp [h4])
         subst h1 h3
         have h2b : (nm.toList == [114, 111, 111, 116]) = true := by simp [h2]
         have h4b : (kind == 0) = false := by simp [h4]
         go_enter Tryz.func63, Tryz.ntmps63
         go_wp2
         go_ret
         exact ⟨by first | rfl | (rw [HE.out]; rfl), HB.out⟩
     · have HE : Hid (decide (id = 0 ∧ nm.toList = [114, 111, 111, 116] ∧ rep = 1 ∧ kind = 0) = false) := (by show _ = _; simp [h3])
       subst h1
       have h2b : (nm.toList == [114, 111, 111, 116]) = true := by simp [h2]
       have h3b : (rep == 1) = false := by simp [h3]
       go_enter Tryz.func63, Tryz.ntmps63
       go_wp2
       go_ret
       exact ⟨by first | rfl | (rw [HE.out]; rfl), HB.out⟩
   · have HE : Hid (decide (id = 0 ∧ nm.toList = [114, 111, 111, 116] ∧ rep = 1 ∧ kind = 0) = false) := (by show _ = _; simp [h2])
     subst h1
     have h2b : (nm.toList == [114, 111, 111, 116]) = false := by simp [h2]
     go_enter Tryz.func63, Tryz.ntmps63
     go_wp2
     go_ret
     exact ⟨by first | rfl | (rw [HE.out]; rfl), HB.out⟩
 · have HE : Hid (decide (id = 0 ∧ nm.toList = [114, 111, 111, 116] ∧ rep = 1 ∧ kind = 0) = false) := (by show _ = _; simp [h1])
   have h1b : (id == 0) = false := by simp [h1]
   go_enter Tryz.func63, Tryz.ntmps63
   go_wp2
   go_ret
   exact ⟨by first | rfl | (rw [HE.out]; rfl), HB.out⟩
theorem isRoot_any (t : Tr) (a : Option Addr) (c : Nat) (W : World) :
    Calls Tryz.prog 63 #[nodeV t a c] W fun e w' => e = .returned (.bool (isRootB t)) ∧ Below W.heap.size W w' := isRoot_vals t.id t.rep t.kind t.nm a t.sub.length c W
def PnL (W0 : World) (Q : Nat → Prop) (p : Pn) : Prop := LiesN W0 Q p.a p.t.sub ∧ p.t.sub.length ≤ p.c
def RetFlL (B : Nat) (W0 : World) (Q : Nat → Prop) (W : World) (l : Value) (want : List Pc) (e : Ending) (w' : World) : Prop :=
 ∃ l' ps, e = .returned l' ∧ ps.map Pn.core = want ∧ FR B W l w' l' ps ∧ ∀ p ∈ ps, PnL W0 Q p
set_option maxRecDepth 100000 in
set_option maxHeartbeats 1600000 in
theorem flat_anyL (B : Nat) (W0 : World) (Q : Nat → Prop) (hQ : ∀ b, Q b → b < B) : ∀ (n : Nat) (t : Tr), SizeOf.sizeOf t < n → t.Sm → ∀ (l : Value) (ps : List Pn) (deep : Nat) (around : Int) (a : Option Addr) (c : Nat) (W : World), Below B W0 W → t.sub.length ≤ c → (∀ p ∈ ps, PnL W0 Q p) → LiesN W Q a t.sub → W.ownsRow B 62 7 l ps.length (ps.flatMap pnc) → B ≤ W.heap.size → ps.length ≤ 2001 → deep ≤ 101 →
    Calls Tryz.prog 35 #[l, nodeV t a c, .int .i64 (deep : Nat), .int .i64 around] W fun e w' => RetFlL B W0 Q W l (flT (ps.map Pn.core) t deep around) e w'
 | 0, t, h => absurd h (Nat.not_lt_zero _)
 | n + 1, t, hsz => fun hsm l ps deep around a c W hb0 hcap hk hl hrow hB hps hdeep => by
  obtain ⟨iv, hvi, hv0, hv1, hv2⟩ := info_parts Tryz.infoP
  have HL : Hid (LiesN W Q a t.sub) := hl
  have hlen := hsm.len
  have HK : Hid (∀ p ∈ ps, PnL W0 Q p) := hk
  have HB0 : Hid (Below B W0 W) := hb0
  have HKt : Hid (PnL W0 Q ⟨t, a, c, deep, around⟩) := ⟨hl.stay (fun _ h _ => h) (fun b h _ => (hb0.block b (hQ b h)).symm), hcap⟩
  clear hk hb0 hcap
  have HR : Hid (W.ownsRow B 62 7 l ps.length (ps.flatMap pnc)) := hrow
  obtain ⟨la, lc, rfl⟩ := pn_shape hrow
  have HIH : Hid (∀ j (hj : j < t.sub.length) (l : Value) (ps : List Pn) (a : Option Addr) (c : Nat) (W : World) (d : Nat) (r : Int), Below B W0 W → t.sub[j].sub.length ≤ c → (∀ p ∈ ps, PnL W0 Q p) → LiesN W Q a t.sub[j].sub → W.ownsRow B 62 7 l ps.length (ps.flatMap pnc) → B ≤ W.heap.size → ps.length ≤ 2001 → d ≤ 101 → Calls Tryz.prog 35 #[l, nodeV t.sub[j] a c, .int .i64 (d : Nat), .int .i64 r] W fun e w' => RetFlL B W0 Q W l (flT (ps.map Pn.core) t.sub[j] d r) e w') := fun j hj l ps a c W d r k1 k2 k3 h1 h2 h3 h4 h5 => flat_anyL B W0 Q hQ n t.sub[j] (by have := t.sub_size j hj; omega) (hsm.at_ j hj) l ps d r a c W k1 k2 k3 h1 h2 h3 h4 h5
  have HEq := flT_eq (ps.map Pn.core) t deep around
  rw [List.length_map] at HEq
  clear hl hsm hsz hrow
  unfold nodeV
  by_cases hstop : 2000 < ps.length ∨ 100 < deep
  · rw [if_pos hstop] at HEq
    have HQ : Hid _ := HEq
    have hcase : decide ((2000 : Int) < (ps.length : Int)) = true ∨ (decide ((2000 : Int) < (ps.length : Int)) = false ∧ decide ((100 : Int) < (deep : Int)) = true) := by
     by_cases h : 2000 < ps.length
     · left; simp; omega
     · right; exact ⟨by simp; omega, by simp; omega⟩
    clear hstop HEq
    rcases hcase with q1 | ⟨q1, q2⟩
    all_goals
     go_enter Tryz.func35, Tryz.ntmps35
     go_wp2
     go_ret
     exact ⟨_, ps, rfl, HQ.out.symm, (FR.refl HR.out).alloc _, HK.out⟩
  · rw [if_neg hstop] at HEq
    have HQ : Hid _ := HEq
    have q1 : decide ((2000 : Int) < (ps.length : Int)) = false := by simp; omega
    have q2 : decide ((100 : Int) < (deep : Int)) = false := by simp; omega
    have q1' : ¬ 2000 < ps.length := by omega
    have q2' : ¬ 100 < deep := by omega
    clear hstop HEq
    obtain ⟨d1, HD⟩ : ∃ d1, Hid (d1 = deep + 1) := ⟨_, rfl⟩
    have hdi : (deep : Int) + 1 = (d1 : Int) := by rw [HD.out]; omega
    have hd101 : d1 ≤ 101 := by rw [HD.out]; omega
    have H7 : Hid (∀ j u, (pnc ⟨t, a, c, deep, around⟩)[j]? = some u → ((W.alloc (.cells #[.int .i64 t.id, .string t.nm, .int .i64 t.rep, .int .i64 t.kind, .slice a t.sub.length c] 24)).alloc (.cells #[.int .i64 t.id, .string t.nm, .int .i64 t.rep, .int .i64 t.kind, .slice a t.sub.length c, .int .i64 (deep : Nat), .int .i64 around] 62)).cell? ((⟨W.heap.size + 1, 0, none⟩ : Addr).add j) = some u) := fun j u h => by
     have := seven_cells (w := W.alloc (.cells #[.int .i64 t.id, .string t.nm, .int .i64 t.rep, .int .i64 t.kind, .slice a t.sub.length c] 24)) (T := 62) j u h
     rwa [show (W.alloc (.cells #[.int .i64 t.id, .string t.nm, .int .i64 t.rep, .int .i64 t.kind, .slice a t.sub.length c] 24)).heap.size = W.heap.size + 1 by simp] at this
    have HBox : Hid ((W.alloc (.cells #[.int .i64 t.id, .string t.nm, .int .i64 t.rep, .int .i64 t.kind, .slice a t.sub.length c] 24)).heap[W.heap.size]? = some (.cells #[.int .i64 t.id, .string t.nm, .int .i64 t.rep, .int .i64 t.kind, .slice a t.sub.length c] 24 (0, 0))) := heap_alloc_new W _
    go_enter Tryz.func35, Tryz.ntmps35
    go_wp2_with (at_builtin; refine wpList_append_where _ rfl _ _ 59 rfl B 62 iv (.agg #[.int .i64 0, .string ⟨#[]⟩, .int .i64 0, .int .i64 0, .slice none 0 0, .int .i64 0, .int .i64 0]) 7 80 Tryz.underlying59 hvi hv0 hv1 hv2 rfl (by decide) _ ps.length (ps.flatMap pnc) rfl ((HR.out.alloc _).alloc _) ⟨W.heap.size + 1, 0, none⟩ 1 1 (pnc ⟨t, a, c, deep, around⟩) rfl rfl H7.out (by intro u hu; simp [pnc] at hu; rcases hu with rfl | rfl | rfl | rfl | rfl | rfl | rfl <;> rfl) (by unfold maxLen; omega) (by omega) (by simp; omega) (by decide) ?_; intro l1 w1 hown1 hgrow1 hwh1)
    have HF1 : Hid (FR B W (.slice la ps.length lc) w1 l1 (ps ++ [⟨t, a, c, deep, around⟩])) := ((FR.refl HR.out).alloc _).push (p := ⟨t, a, c, deep, around⟩) hown1 hgrow1 hwh1
    have HB1 : Hid (w1.heap[W.heap.size]? = some (.cells #[.int .i64 t.id, .string t.nm, .int .i64 t.rep, .int .i64 t.kind, .slice a t.sub.length c] 24 (0, 0))) := by
     show _ = _
     exact (hgrow1.block W.heap.size (by simp; omega) (pn_apart (HR.out.alloc _) HBox.out)).trans (blk_alloc HBox.out)
    have HC1 : Hid ((ps ++ [⟨t, a, c, deep, around⟩] : List Pn).map Pn.core = flL (ps.map Pn.core ++ [⟨t, deep, around⟩]) (t.sub.take 0) d1 ps.length) := by
     show _ = _
     rw [List.take_zero, flL, List.map_append]
     rfl
    clear hown1 hgrow1 hwh1 H7 HBox
    go_loopw [0, 10] (fun lv x wr => ∃ (i : Nat) (qs : List Pn), i ≤ t.sub.length ∧ x = .int .i64 i ∧ Hid (qs.map Pn.core = flL (ps.map Pn.core ++ [⟨t, deep, around⟩]) (t.sub.take i) d1 ps.length) ∧ Hid (FR B W (.slice la ps.length lc) wr lv qs) ∧ Hid (∀ p ∈ qs, PnL W0 Q p) ∧ Hid (wr.heap[W.heap.size]? = some (.cells #[.int .i64 t.id, .string t.nm, .int .i64 t.rep, .int .i64 t.kind, .slice a t.sub.length c] 24 (0, 0)))) (fun _ x _ => t.sub.length - (intOf x).toNat)
    case atStart => exact ⟨0, _, Nat.zero_le _, rfl, HC1, HF1, fun p hp => (List.mem_append.1 hp).elim (HK.out p) (fun h => by obtain rfl := List.mem_singleton.1 h; exact HKt.out), HB1⟩
    case round =>
     clear HC1 HF1 HB1
     obtain ⟨i, qs, hik, rfl, HC, HF, HKq, HB⟩ := hrel
     obtain ⟨⟨p0, p1, p2, p3, p4⟩, _⟩ := row_five HB.out
     obtain ⟨ka, kc, rfl⟩ := pn_shape HF.out.row
     have hgs := HF.out.grown.size
     by_cases hlt : i < t.sub.length
     · have HLr : Hid (LiesN wr Q a t.sub) := HL.out.stay (fun _ h _ => h) (fun b h _ => (HF.out.below HR.out hB).block b (hQ b h))
       obtain ⟨b, o, a1, c1, rfl, d0, e1, d2, d3, d4, hl1, hc1⟩ := HLr.out.at2 i hlt
       have HC2 : Hid _ := HIH.out i hlt (.slice ka qs.length kc) qs a1 c1 wr d1 (ps.length : Int) (HB0.out.trans (HF.out.below HR.out hB)) hc1 HKq.out hl1 HF.out.row (by omega) (by
        have h := congrArg List.length HC.out
        rw [List.length_map] at h
        rw [h]
        exact flL_len _ _ _ _ (by rw [List.length_append, List.length_map]; simp; omega)) hd101
       clear hl1 hc1
       go_wp2_with fail
       refine Calls.mono HC2.out ?_
       clear HC2
       rintro e w2 ⟨l2, ps2, rfl, hcore, hF2, hk2⟩
       have HK2 : Hid (∀ p ∈ ps2, PnL W0 Q p) := hk2
       have HN : Hid (ps2.map Pn.core = flL (ps.map Pn.core ++ [⟨t, deep, around⟩]) (t.sub.take (i + 1)) d1 ps.length) := by
        show _ = _
        rw [hcore, HC.out, ← flL_take t.sub i hlt]
       have HF3 : Hid _ := HF.out.trans hF2
       have HB3 : Hid (w2.heap[W.heap.size]? = some (.cells #[.int .i64 t.id, .string t.nm, .int .i64 t.rep, .int .i64 t.kind, .slice (some ⟨b, o, none⟩) t.sub.length c] 24 (0, 0))) := by
        show _ = _
        rw [hF2.grown.block W.heap.size (lt_of_block HB.out) (pn_apart HF.out.row HB.out)]
        exact HB.out
       clear hcore hF2 hk2
       go_wp2
       go_roundw
       case rel => exact ⟨i + 1, ps2, by omega, by go_num, HN, HF3, HK2, HB3⟩
       case measure => simp [intOf]; omega
     · obtain rfl : i = t.sub.length := by omega
       have HN : Hid (qs.map Pn.core = flT (ps.map Pn.core) t deep around) := by
        show _ = _
        rw [HC.out, List.take_length, HQ.out, HD.out]
       go_wp2
       go_ret
       exact ⟨_, qs, rfl, HN.out, HF.out, HKq.out⟩
set_option maxRecDepth 100000 in
set_option maxHeartbeats 1600000 in
theorem flatF_anyL (t : Tr) (hsm : t.Sm) (P : Nat → Prop) (a : Option Addr) (c : Nat) (W : World) (hl : LiesN W P a t.sub) (hcap : t.sub.length ≤ c) :
    Calls Tryz.prog 22 #[nodeV t a c] W fun e w' => (∃ (ps : List Pn) (la : Option Addr) (lc : Nat), e = .returned (.slice la ps.length lc) ∧ ps.map Pn.core = fl t ∧ w'.ownsRow W.heap.size 62 7 (.slice la ps.length lc) ps.length (ps.flatMap pnc) ∧ ∀ p ∈ ps, LiesN w' (fun b => P b ∧ b < W.heap.size) p.a p.t.sub ∧ p.t.sub.length ≤ p.c) ∧ Below W.heap.size W w' := by
 have hb0 : ∀ ob : Obj, Below W.heap.size W (W.alloc ob) := fun ob => (Below.refl _ _).alloc (Nat.le_refl _) ob
 have HC : Hid (∀ ob : Obj, Calls Tryz.prog 35 #[.slice none 0 0, nodeV t a c, .int .i64 ((1 : Nat) : Int), .int .i64 (-1)] (W.alloc ob) fun e w' => RetFlL (W.alloc ob).heap.size (W.alloc ob) (fun b => P b ∧ b < W.heap.size) (W.alloc ob) (.slice none 0 0) (flT ([] : List Pc) t 1 (-1)) e w') := fun ob =>
  flat_anyL (W.alloc ob).heap.size (W.alloc ob) (fun b => P b ∧ b < W.heap.size) (fun b h => by simp; omega) (SizeOf.sizeOf t + 1) t (Nat.lt_succ_self _) hsm (.slice none 0 0) [] 1 (-1) a c (W.alloc ob) (Below.refl _ _) hcap (fun p hp => by simp at hp) (hl.stay (fun _ hp h => ⟨hp, h⟩) (fun b _ h => (hb0 ob).block b h)) (World.ownsRow_nil _ _ _ _) (Nat.le_refl _) (by simp) (by omega)
 have H1 : Hid (∀ ob : Obj, Below W.heap.size W (W.alloc ob)) := hb0
 clear hl hb0
 unfold nodeV at *
 go_enter Tryz.func22, Tryz.ntmps22
 go_wp2_with fail
 refine Calls.mono (HC.out _) ?_
 rintro e w1 ⟨l', ps, rfl, hc, hF, hk⟩
 obtain ⟨la, lc, rfl⟩ := pn_shape hF.row
 have HCo : Hid (ps.map Pn.core = fl t) := hc
 have HRw := hF.row
 have HBl := hF.below (qs := []) (World.ownsRow_nil _ _ _ _) (Nat.le_refl _)
 have HKp : Hid (∀ p ∈ ps, LiesN w1 (fun b => P b ∧ b < W.heap.size) p.a p.t.sub ∧ p.t.sub.length ≤ p.c) := fun p hp => ⟨(hk p hp).1.stay (fun _ h _ => h) (fun b h _ => HBl.block b (by simp; omega)), (hk p hp).2⟩
 have HB : Hid (Below W.heap.size W w1) := (H1.out _).trans (HBl.mono (by simp))
 have HRw2 : Hid (w1.ownsRow W.heap.size 62 7 (.slice la ps.length lc) ps.length (ps.flatMap pnc)) := by
  refine ⟨HRw.1, ?_⟩
  rcases HRw.2 with h | ⟨g, cap, cur, h1, h2, h3⟩
  · exact .inl h
  · exact .inr ⟨g, cap, cur, h1, by simp at h2; omega, h3⟩
 clear hc hF HRw HBl hk
 go_wp2
 go_ret
 exact ⟨⟨ps, la, lc, rfl, HCo.out, HRw2.out, HKp.out⟩, HB.out⟩
def Idx {α : Type} (p : α → Bool) (l : List α) (r : Int) : Prop := (r = -1 ∧ ∀ j (h : j < l.length), p l[j] = false) ∨ ∃ (i : Nat) (h : i < l.length), r = i ∧ p l[i] = true ∧ ∀ j (h : j < i), p l[j] = false
theorem Idx.any {α : Type} {p : α → Bool} {l : List α} {r : Int} (h : Idx p l r) : decide (0 ≤ r) = l.any p := by
 rcases h with ⟨rfl, h⟩ | ⟨i, hi, rfl, h1, _⟩
 · symm
   simp only [List.any_eq, show ¬ ((0 : Int) ≤ -1) by omega]
   rw [decide_eq_decide]
   constructor
   · rintro ⟨x, hx, hp⟩
     obtain ⟨j, hj, rfl⟩ := List.getElem_of_mem hx
     rw [h j hj] at hp
     cases hp
   · intro h; cases h
 · have : l.any p = true := List.any_eq_true.2 ⟨l[i], List.getElem_mem hi, h1⟩
   rw [this]
   simp
set_option maxRecDepth 100000 in
set_option maxHeartbeats 1600000 in
theorem isSmall_any (b : UInt8) (W : World) : Calls Tryz.prog 125 #[.int .u8 b.toNat] W fun e w' => e = .returned (.bool (decide (97 ≤ b.toNat ∧ b.toNat ≤ 122))) ∧ w' = W := by
 by_cases h1 : 97 ≤ b.toNat
 all_goals
  by_cases h2 : b.toNat ≤ 122
  all_goals
   go_enter Tryz.func125, Tryz.ntmps125
   go_wp2
   all_goals go_ret
   all_goals simp [h1, h2]
   all_goals omega
def smallB (b : UInt8) : Bool := decide (97 ≤ b.toNat ∧ b.toNat ≤ 122)
def nameOk (s : ByteArray) : Bool := decide (1 ≤ s.size ∧ s.size ≤ 12) && s.data.toList.all smallB
set_option maxRecDepth 100000 in
set_option maxHeartbeats 1600000 in
theorem isName_any (s : ByteArray) (W : World) : Calls Tryz.prog 100 #[.string s] W fun e w' => e = .returned (.bool (nameOk s)) ∧ w' = W := by
 by_cases h1 : 1 ≤ s.size
 · by_cases h2 : s.size ≤ 12
   · have q1 : decide ((s.size : Int) < 1) = false := by simp; omega
     have q2 : decide ((12 : Int) < (s.size : Int)) = false := by simp; omega
     have HE : Hid (nameOk s = s.data.toList.all smallB) := (by show _ = _; simp [nameOk, h1, h2])
     have hsz : Hid (s.data.toList.length = s.size) := (by show _ = _; simp)
     go_enter Tryz.func100, Tryz.ntmps100
     go_wp2
     go_loop [14] (fun x => ∃ i : Nat, i ≤ s.size ∧ x = .int .i64 i ∧ Hid (∀ j (h : j < s.data.toList.length), j < i → smallB s.data.toList[j] = true)) (fun x => s.size - (intOf x).toNat)
     case atStart => exact ⟨0, Nat.zero_le _, rfl, fun j _ h => absurd h (Nat.not_lt_zero _)⟩
     case round =>
      obtain ⟨i, hi, rfl, HA⟩ := hrel
      by_cases hlt : i < s.size
      · have hlt' : i < s.data.toList.length := by rw [hsz.out]; exact hlt
        have eb : s[i] = s.data.toList[i] := rfl
        go_wp2_with fail
        refine (isSmall_any s[i] W).mono ?_
        rintro e w1 ⟨rfl, rfl⟩
        cases hb : smallB s.data.toList[i] with
        | true =>
         have hb' : decide (97 ≤ s[i].toNat ∧ s[i].toNat ≤ 122) = true := hb
         rw [hb']
         have HN : Hid (∀ j (h : j < s.data.toList.length), j < i + 1 → smallB s.data.toList[j] = true) := fun j h hj => by
          by_cases e : j = i
          · subst e; exact hb
          · exact HA.out j h (by omega)
         clear hb hb' eb
         go_wp2
         go_round
         case rel => exact ⟨i + 1, by omega, by go_num, HN⟩
         case measure => simp [intOf]; omega
        | false =>
         have hb' : decide (97 ≤ s[i].toNat ∧ s[i].toNat ≤ 122) = false := hb
         rw [hb']
         have HT : Hid (nameOk s = false) := (by
          show _ = _
          rw [HE.out, List.all_eq_false]
          exact ⟨_, List.getElem_mem hlt', by rw [hb]; simp⟩)
         clear hb hb' eb
         go_wp2
         go_ret
         exact ⟨by rw [HT.out]; rfl, rfl⟩
      · obtain rfl : i = s.size := by omega
        have HT : Hid (nameOk s = true) := (by
         show _ = _
         rw [HE.out, List.all_eq_true]
         intro x hx
         obtain ⟨j, hj, rfl⟩ := List.getElem_of_mem hx
         exact HA.out j hj (by rw [← hsz.out]; exact hj))
        go_wp2
        go_ret
        exact ⟨by rw [HT.out]; rfl, rfl⟩
   · have q1 : decide ((s.size : Int) < 1) = false := by simp; omega
     have q2 : decide ((12 : Int) < (s.size : Int)) = true := by simp; omega
     have HE : Hid (nameOk s = false) := (by show _ = _; simp [nameOk, h2])
     go_enter Tryz.func100, Tryz.ntmps100
     go_wp2
     go_ret
     exact ⟨by rw [HE.out]; rfl, rfl⟩
 · have q1 : decide ((s.size : Int) < 1) = true := by simp; omega
   have HE : Hid (nameOk s = false) := (by show _ = _; simp [nameOk, h1])
   go_enter Tryz.func100, Tryz.ntmps100
   go_wp2
   go_ret
   exact ⟨by rw [HE.out]; rfl, rfl⟩
set_option maxRecDepth 100000 in
set_option maxHeartbeats 1600000 in
theorem nmEq_any (nm s : ByteArray) (g : Nat) (y0 y2 y3 : Int) (a : Option Addr) (n c : Nat) (x0 x2 x3 x4 : Value) (W : World) (hg : W.heap[g]? = some (.cells #[x0, .string nm, x2, x3, x4] 24 (0, 0))) :
    Calls Tryz.prog 99 #[.agg #[.int .i64 y0, .string s, .int .i64 y2, .int .i64 y3, .slice a n c], .pointer (some ⟨g, 0, none⟩)] W fun e w' => e = .returned (.bool (s.toList == nm.toList)) ∧ Below W.heap.size W w' := by
 have HB : Hid (Below W.heap.size W (W.alloc (.cells #[.int .i64 y0, .string s, .int .i64 y2, .int .i64 y3, .slice a n c] 24))) := (Below.refl _ _).alloc (Nat.le_refl _) _
 obtain ⟨⟨p0, p1, p2, p3, p4⟩, _⟩ := row_five (blk_alloc (o' := .cells #[.int .i64 y0, .string s, .int .i64 y2, .int .i64 y3, .slice a n c] 24) hg)
 clear hg
 go_enter Tryz.func99, Tryz.ntmps99
 go_wp2
 go_ret
 exact ⟨rfl, HB.out⟩
set_option maxRecDepth 100000 in
set_option maxHeartbeats 1600000 in
theorem idxM_any (nm : ByteArray) (g : Nat) (x0 x2 x3 x4 : Value) (P : Nat → Prop) (a : Option Addr) (c : Nat) (ts : List Tr) (hn : ts.length ≤ 1048576) (W : World) (hg : W.heap[g]? = some (.cells #[x0, .string nm, x2, x3, x4] 24 (0, 0))) (hl : LiesN W P a ts) :
    Calls Tryz.prog (71) #[.slice a ts.length c, .func (.func 99) #[] #[.pointer (some ⟨g, 0, none⟩)]] W fun e w' => (∃ r, e = .returned (.int .i64 r) ∧ Idx (fun t => t.nm.toList == nm.toList) ts r) ∧ Below W.heap.size W w' := by
 have HL : Hid (LiesN W P a ts) := hl
 have HG : Hid (W.heap[g]? = some (.cells #[x0, .string nm, x2, x3, x4] 24 (0, 0))) := hg
 clear hl hg
 go_enter Tryz.func71, Tryz.ntmps71
 go_wp2
 go_loopw [8] (fun x wr => ∃ i : Nat, i ≤ ts.length ∧ x = .int .i64 i ∧ Hid (∀ j (h : j < ts.length), j < i → (ts[j].nm.toList == nm.toList) = false) ∧ Below W.heap.size W wr) (fun x _ => ts.length - (intOf x).toNat)
 case atStart => exact ⟨0, Nat.zero_le _, rfl, fun j _ h => absurd h (Nat.not_lt_zero _), Below.refl _ _⟩
 case round =>
  obtain ⟨i, hi, rfl, HA, hb⟩ := hrel
  have HB : Hid _ := hb
  by_cases hlt : i < ts.length
  · obtain ⟨b, o, a1, c1, rfl, d0, d1, d2, d3, d4, hl1⟩ := (HL.out.keep hb).at_ i hlt
    clear hl1
    obtain ⟨⟨p0, p1, p2, p3, p4⟩, _⟩ := row_five (blk_keep hb HG.out)
    have HGr : Hid (wr.heap[g]? = some (.cells #[x0, .string nm, x2, x3, x4] 24 (0, 0))) := blk_keep hb HG.out
    clear p0 p1 p2 p3 p4 hb
    go_wp2_with fail
    refine (nmEq_any nm ts[i].nm g _ _ _ a1 _ c1 x0 x2 x3 x4 wr HGr.out).mono ?_
    rintro e w1 ⟨rfl, hb1⟩
    have HB1 : Hid (Below W.heap.size W w1) := HB.out.trans (hb1.mono HB.out.size)
    clear hb1
    cases hq : (ts[i].nm.toList == nm.toList) with
    | true =>
     have HQ : Hid _ := hq
     clear hq
     go_wp2
     go_ret
     exact ⟨⟨(i : Int), rfl, .inr ⟨i, hlt, rfl, HQ.out, fun j h => HA.out j (by omega) h⟩⟩, HB1.out⟩
    | false =>
     have HN : Hid (∀ j (h : j < ts.length), j < i + 1 → (ts[j].nm.toList == nm.toList) = false) := fun j h hj => by
      by_cases e : j = i
      · subst e; exact hq
      · exact HA.out j h (by omega)
     clear hq
     go_wp2
     go_roundw
     case rel => exact ⟨i + 1, by omega, by go_num, HN, HB1⟩
     case measure => simp [intOf]; omega
  · obtain rfl : i = ts.length := by omega
    go_wp2
    go_ret
    exact ⟨⟨-1, rfl, .inl ⟨rfl, fun j h => HA.out j h h⟩⟩, hb⟩
set_option maxRecDepth 100000 in
set_option maxHeartbeats 1600000 in
theorem containsM_any (nm : ByteArray) (g : Nat) (x0 x2 x3 x4 : Value) (P : Nat → Prop) (a : Option Addr) (k c : Nat) (ts : List Tr) (hn : ts.length ≤ 1048576) (hk : k = ts.length) (W : World) (hg : W.heap[g]? = some (.cells #[x0, .string nm, x2, x3, x4] 24 (0, 0))) (hl : LiesN W P a ts) :
    Calls Tryz.prog (86) #[.slice a k c, .func (.func 99) #[] #[.pointer (some ⟨g, 0, none⟩)]] W fun e w' => e = .returned (.bool (ts.any fun t => t.nm.toList == nm.toList)) ∧ Below W.heap.size W w' := by
 subst hk
 have HC : Hid _ := idxM_any nm g x0 x2 x3 x4 P a c ts hn W hg hl
 clear hg hl
 go_enter Tryz.func86, Tryz.ntmps86
 go_wp2_with fail
 refine Calls.mono HC.out ?_
 rintro e w1 ⟨⟨r, rfl, hr⟩, hb⟩
 have HR : Hid _ := hr.any
 have HB : Hid _ := hb
 clear hr hb
 go_wp2
 go_ret
 exact ⟨by rw [← HR.out]; rfl, HB.out⟩
def nmsL (ahead : List Tr) : List Tr → Bool
 | [] => true
 | t :: ts => nameOk t.nm && !(ahead.any fun x => x.nm.toList == t.nm.toList) && nmsL (ahead ++ [t]) ts
theorem nmsL_step (ts : List Tr) (i : Nat) (h : i < ts.length) : nmsL (ts.take i) (ts.drop i) = (nameOk ts[i].nm && !((ts.take i).any fun x => x.nm.toList == ts[i].nm.toList) && nmsL (ts.take (i + 1)) (ts.drop (i + 1))) := by
 rw [List.drop_eq_getElem_cons h, nmsL, List.take_succ_eq_append_getElem h]
def stM (_ : Unit) (_ : List Tr) (t : Tr) : Bool × Unit := (nmsL [] t.sub, ())
set_option maxRecDepth 100000 in
set_option maxHeartbeats 1600000 in
theorem nms1_any (t : Tr) (a : Option Addr) (c : Nat) (va : Option Addr) (vn vc : Nat) (P : Nat → Prop) (W : World) (hs : t.Sm) (hcap : t.sub.length ≤ c) (hl : LiesN W P a t.sub) :
    Calls Tryz.prog 98 #[nodeV t a c, .slice va vn vc] W fun e w' => e = .returned (.bool (nmsL [] t.sub)) ∧ Below W.heap.size W w' := by
 have hsl := hs.len
 have HL : Hid (LiesN W P a t.sub) := hl
 have HB0 : Hid (Below W.heap.size W (W.alloc (.cells #[.int .i64 t.id, .string t.nm, .int .i64 t.rep, .int .i64 t.kind, .slice a t.sub.length c] 24))) := (Below.refl _ _).alloc (Nat.le_refl _) _
 have HX0 : Hid ((W.alloc (.cells #[.int .i64 t.id, .string t.nm, .int .i64 t.rep, .int .i64 t.kind, .slice a t.sub.length c] 24)).heap[W.heap.size]? = some (.cells #[.int .i64 t.id, .string t.nm, .int .i64 t.rep, .int .i64 t.kind, .slice a t.sub.length c] 24 (0, 0))) := heap_alloc_new W _
 clear hl hs
 unfold nodeV
 go_enter Tryz.func98, Tryz.ntmps98
 go_wp2
 go_loopw [11] (fun x wr => ∃ i : Nat, i ≤ t.sub.length ∧ x = .int .i64 i ∧ Hid (nmsL [] t.sub = nmsL (t.sub.take i) (t.sub.drop i)) ∧ Hid (Below W.heap.size W wr) ∧ Hid (wr.heap[W.heap.size]? = some (.cells #[.int .i64 t.id, .string t.nm, .int .i64 t.rep, .int .i64 t.kind, .slice a t.sub.length c] 24 (0, 0)))) (fun x _ => t.sub.length - (intOf x).toNat)
 case atStart => exact ⟨0, Nat.zero_le _, rfl, rfl, HB0, HX0⟩
 case round =>
  obtain ⟨i, hi, rfl, HA, HB, HX⟩ := hrel
  by_cases hlt : i < t.sub.length
  · obtain ⟨b, o, a1, c1, rfl, d0, d1, d2, d3, d4, hl1⟩ := (HL.out.keep HB.out).at_ i hlt
    clear hl1
    obtain ⟨⟨p0, p1, p2, p3, p4⟩, _⟩ := row_five (blk_alloc (o' := .cells #[.int .i64 t.sub[i].id, .string t.sub[i].nm, .int .i64 t.sub[i].rep, .int .i64 t.sub[i].kind, .slice a1 t.sub[i].sub.length c1] 24) HX.out)
    have HS := nmsL_step t.sub i hlt
    obtain ⟨bn, hbn⟩ : ∃ bn, nameOk t.sub[i].nm = bn := ⟨_, rfl⟩
    obtain ⟨ba, hba⟩ : ∃ ba, ((t.sub.take i).any fun x => x.nm.toList == t.sub[i].nm.toList) = ba := ⟨_, rfl⟩
    rw [hbn, hba] at HS
    have HS : Hid _ := HS
    have HBn : Hid _ := hbn
    have HBa : Hid _ := hba
    clear hbn hba
    have HG : Hid ((wr.alloc (.cells #[.int .i64 t.sub[i].id, .string t.sub[i].nm, .int .i64 t.sub[i].rep, .int .i64 t.sub[i].kind, .slice a1 t.sub[i].sub.length c1] 24)).heap[wr.heap.size]? = some (.cells #[.int .i64 t.sub[i].id, .string t.sub[i].nm, .int .i64 t.sub[i].rep, .int .i64 t.sub[i].kind, .slice a1 t.sub[i].sub.length c1] 24 (0, 0))) := heap_alloc_new wr _
    have hb2 : Below wr.heap.size wr (wr.alloc (.cells #[.int .i64 t.sub[i].id, .string t.sub[i].nm, .int .i64 t.sub[i].rep, .int .i64 t.sub[i].kind, .slice a1 t.sub[i].sub.length c1] 24)) := (Below.refl _ _).alloc (Nat.le_refl _) _
    have HB2 : Hid _ := hb2
    have HC : Hid _ := containsM_any t.sub[i].nm wr.heap.size _ _ _ _ P (some ⟨b, o, none⟩) i c (t.sub.take i) (by simp; omega) (by simp; omega) _ HG.out (((HL.out.keep HB.out).keep hb2).take i)
    clear hb2
    go_wp2_with fail
    refine (isName_any _ _).mono ?_
    rintro e w1 ⟨rfl, rfl⟩
    rw [HBn.out]
    cases bn with
    | false =>
     go_wp2
     go_ret
     exact ⟨by rw [HA.out, HS.out]; simp, HB.out.trans (HB2.out.mono HB.out.size)⟩
    | true =>
     go_wp2_with fail
     refine Calls.mono HC.out ?_
     rw [HBa.out]
     rintro e w1 ⟨rfl, hb3⟩
     have HB3 : Hid (Below W.heap.size W w1) := (HB.out.trans (HB2.out.mono HB.out.size)).trans (hb3.mono (by have := HB.out.size; simp; omega))
     have HX3 : Hid (w1.heap[W.heap.size]? = some (.cells #[.int .i64 t.id, .string t.nm, .int .i64 t.rep, .int .i64 t.kind, .slice (some ⟨b, o, none⟩) t.sub.length c] 24 (0, 0))) := blk_keep hb3 (blk_keep HB2.out HX.out)
     clear hb3
     cases ba with
     | true =>
      go_wp2
      go_ret
      exact ⟨by rw [HA.out, HS.out]; simp, HB3.out⟩
     | false =>
      have HN : Hid (nmsL [] t.sub = nmsL (t.sub.take (i + 1)) (t.sub.drop (i + 1))) := (by show _ = _; rw [HA.out, HS.out]; simp)
      go_wp2
      go_roundw
      case rel => exact ⟨i + 1, by omega, by go_num, HN, HB3, HX3⟩
      case measure => simp [intOf]; omega
  · obtain rfl : i = t.sub.length := by omega
    go_wp2
    go_ret
    exact ⟨by rw [HA.out, List.drop_length, nmsL]; rfl, HB.out⟩
def nmsT (t : Tr) : Bool := (wkT stM () [] t).1
set_option maxRecDepth 100000 in
set_option maxHeartbeats 1600000 in
theorem names_any (t : Tr) (n : Nat) (hd : t.Dp n) (hn : n ≤ 1100000) (hs : t.Sm) (a : Option Addr) (c : Nat) (P : Nat → Prop) (W : World) (hl : LiesN W P a t.sub) (hcap : t.sub.length ≤ c) :
    Calls Tryz.prog 65 #[nodeV t a c] W fun e w' => e = .returned (.bool (nmsT t)) ∧ Below W.heap.size W w' := by
 have hb : Below W.heap.size W (W.alloc (.cells #[.int .i64 t.id, .string t.nm, .int .i64 t.rep, .int .i64 t.kind, .slice a t.sub.length c] 24)) := (Below.refl _ _).alloc (Nat.le_refl _) _
 have HC : Hid _ := wkM_any stM (fun _ _ => True) (fun _ _ => True) (fun _ _ => True) (fun _ => 0) t.cnt W.heap.size (W.heap.size + 1) (by omega) (fun _ _ _ _ _ _ _ => trivial)
  (fun _ _ _ _ _ => trivial) (fun _ _ _ => Nat.zero_le _)
  (fun s path t a c v W' _ _ h1 h2 h3 hcap h4 h5 => by
   obtain ⟨va, vc, rfl⟩ := h2.shape
   exact (nms1_any t a c va path.length vc _ W' h4 hcap h3).mono fun e w' h => ⟨h.1, fun _ => trivial, fun _ => trivial, VFr.of_below h.2 (by omega)⟩)
  n t hd hs () [] a c (.slice none 0 0) (W.alloc (.cells #[.int .i64 t.id, .string t.nm, .int .i64 t.rep, .int .i64 t.kind, .slice a t.sub.length c] 24)) trivial (by simp) (by simp; omega) trivial (PathR.nil _ _ _) (hl.stay (fun b _ h => h) (fun b _ h => hb.block b h)) hcap (by simp)
 have HB : Hid _ := hb
 clear hl hd hs hb
 go_enter Tryz.func65, Tryz.ntmps65
 go_wp2_with fail
 refine Calls.mono HC.out ?_
 rintro e w1 ⟨rfl, _, _, hf, _⟩
 have HF : Hid _ := hf.below
 clear hf
 go_wp2
 go_ret
 exact ⟨rfl, HB.out.trans HF.out⟩
end Go.Proofs.YteonbmaokphleaaGreatDoor
