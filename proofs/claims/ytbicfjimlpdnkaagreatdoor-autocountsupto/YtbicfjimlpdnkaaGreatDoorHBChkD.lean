/-
  data.Check: exact: which error, or none.
  data.Check: exact: groups, lists, and all of it.
  data.Check: exact: lists, and all of it.
  What a right datum is: one of four.
  Boxes, frames and names that the walks of stage 4's laws share.
  data.Check: exact: all of it.
  A schema's error by its flat list, and by walks through it: the same; the words, without the program.
  A schema under a projection: the two ways to tell what stays: the words, without the program.
  A right schema: no number twice, each node has a leaf in it.
-/
import Derived.Test.YtbicfjimlpdnkaaGreatDoorHWeightD
import Derived.Test.YtbicfjimlpdnkaaGreatDoorHBIds
import Derived.Deep.RegionLaw
import Derived.RegionTactic
import Derived.Test.YtbicfjimlpdnkaaGreatDoorHOwn
import Derived.BigQuiet
import Derived.Test.YtbicfjimlpdnkaaGreatDoorHBOwnN
namespace Go.Proofs.YtbicfjimlpdnkaaGreatDoor
open Go.RowKit
def hasV (v : Vl) : Bool := !(decide (v.k = 0 ∧ v.n = 0 ∧ v.s.toList = []))
set_option maxRecDepth 100000 in
set_option maxHeartbeats 1600000 in
theorem hasValue_any (no : Bool) (k n : Int) (s : ByteArray) (al af : Option Addr) (nl cl nf cf : Nat) (W : World) :
    Calls Tryz.prog 81 #[.agg #[.bool no, .int .i64 k, .int .i64 n, .string s, .slice al nl cl, .slice af nf cf]] W fun e w' => e = .returned (.bool (hasV ⟨k, n, s⟩)) ∧ Below W.heap.size W w' := by
  have HB : Hid (Below W.heap.size W (W.alloc (.cells #[.bool no, .int .i64 k, .int .i64 n, .string s, .slice al nl cl, .slice af nf cf] 58))) := (Below.refl _ _).alloc (Nat.le_refl _) _
  go_enter Tryz.func81, Tryz.ntmps81
  go_wp2
  all_goals go_ret
  all_goals exact ⟨by simp [hasV, *], by first | exact HB.out | simpa [*] using HB.out⟩
set_option maxRecDepth 100000 in
set_option maxHeartbeats 1600000 in
theorem hasElements_any (no : Bool) (k n : Int) (s : ByteArray) (al af : Option Addr) (nl cl nf cf : Nat) (W : World) :
    Calls Tryz.prog 83 #[.agg #[.bool no, .int .i64 k, .int .i64 n, .string s, .slice al nl cl, .slice af nf cf]] W fun e w' => e = .returned (.bool (decide (0 < nl))) ∧ Below W.heap.size W w' := by
  have HB : Hid (Below W.heap.size W (W.alloc (.cells #[.bool no, .int .i64 k, .int .i64 n, .string s, .slice al nl cl, .slice af nf cf] 58))) := (Below.refl _ _).alloc (Nat.le_refl _) _
  go_enter Tryz.func83, Tryz.ntmps83
  go_wp2
  go_ret
  exact ⟨by first | rfl | simp, HB.out⟩
set_option maxRecDepth 100000 in
set_option maxHeartbeats 1600000 in
theorem hasFields_any (no : Bool) (k n : Int) (s : ByteArray) (al af : Option Addr) (nl cl nf cf : Nat) (W : World) :
    Calls Tryz.prog 82 #[.agg #[.bool no, .int .i64 k, .int .i64 n, .string s, .slice al nl cl, .slice af nf cf]] W fun e w' => e = .returned (.bool (decide (0 < nf))) ∧ Below W.heap.size W w' := by
  have HB : Hid (Below W.heap.size W (W.alloc (.cells #[.bool no, .int .i64 k, .int .i64 n, .string s, .slice al nl cl, .slice af nf cf] 58))) := (Below.refl _ _).alloc (Nat.le_refl _) _
  go_enter Tryz.func82, Tryz.ntmps82
  go_wp2
  go_ret
  exact ⟨by first | rfl | simp, HB.out⟩
mutual
/-- A datum's error for a node: 0: none; 1: bound, 2: shape, 3: kind. -/
def chk (one : Bool) (t : Tr) : Dt → Nat
  | .mk no v l f =>
    if one = false ∧ t.rep = 3 then (if 40 < l.length then 1 else if (no || hasV v || decide (0 < f.length)) = true then 2 else chkL t l)
    else if one = false ∧ t.rep = 2 ∧ no = true then (if (hasV v || decide (0 < l.length) || decide (0 < f.length)) = true then 2 else 0)
    else if t.kind = 0 then (if (no || hasV v || decide (0 < l.length) || !decide (f.length = t.sub.length)) = true then 2 else chkF t.sub f)
    else if (no || decide (0 < l.length) || decide (0 < f.length)) = true then 2 else if (!decide (v.k = t.kind) || !okV v.k v.k v.n v.s.size) = true then 3 else 0
def chkL (t : Tr) : List Dt → Nat
  | [] => 0
  | d :: ds => if chk true t d = 0 then chkL t ds else chk true t d
def chkF : List Tr → List Dt → Nat
  | _, [] => 0
  | [], _ :: _ => 0
  | t :: ts, d :: ds => if chk false t d = 0 then chkF ts ds else chk false t d
end
theorem chk_eq (one : Bool) (t : Tr) (d : Dt) : chk one t d = if one = false ∧ t.rep = 3 then (if 40 < d.l.length then 1 else if (d.no || hasV d.v || decide (0 < d.f.length)) = true then 2 else chkL t d.l)
    else if one = false ∧ t.rep = 2 ∧ d.no = true then (if (hasV d.v || decide (0 < d.l.length) || decide (0 < d.f.length)) = true then 2 else 0)
    else if t.kind = 0 then (if (d.no || hasV d.v || decide (0 < d.l.length) || !decide (d.f.length = t.sub.length)) = true then 2 else chkF t.sub d.f)
    else if (d.no || decide (0 < d.l.length) || decide (0 < d.f.length)) = true then 2 else if (!decide (d.v.k = t.kind) || !okV d.v.k d.v.k d.v.n d.v.s.size) = true then 3 else 0 := by
  cases d with
  | mk no v l f => rw [chk]; rfl
theorem chkL_drop (t : Tr) (ds : List Dt) (i : Nat) (h : i < ds.length) : chkL t (ds.drop i) = if chk true t ds[i] = 0 then chkL t (ds.drop (i + 1)) else chk true t ds[i] := by
  rw [List.drop_eq_getElem_cons h, chkL]
theorem chkF_drop (ts : List Tr) (ds : List Dt) (i : Nat) (h : i < ds.length) (h' : i < ts.length) : chkF (ts.drop i) (ds.drop i) = if chk false ts[i] ds[i] = 0 then chkF (ts.drop (i + 1)) (ds.drop (i + 1)) else chk false ts[i] ds[i] := by
  rw [List.drop_eq_getElem_cons h, List.drop_eq_getElem_cons h', chkF]
/-- The three errors that a record may have. -/
structure EC (W : World) (eb es ek : TypeId × Value) : Prop where
  b : W.cell? ⟨0, 0, none⟩ = some (.iface eb.1 eb.2)
  s : W.cell? ⟨1, 0, none⟩ = some (.iface es.1 es.2)
  k : W.cell? ⟨3, 0, none⟩ = some (.iface ek.1 ek.2)
theorem EC.keep {W w' : World} {eb es ek : TypeId × Value} (h : EC W eb es ek) (hb : Below W.heap.size W w') : EC w' eb es ek :=
  ⟨(hb.cell (World.block_lt_of_cell? W _ h.b)).trans h.b, (hb.cell (World.block_lt_of_cell? W _ h.s)).trans h.s, (hb.cell (World.block_lt_of_cell? W _ h.k)).trans h.k⟩
def erV (eb es ek : TypeId × Value) (n : Nat) : Value := if n = 1 then .iface eb.1 eb.2 else if n = 2 then .iface es.1 es.2 else if n = 3 then .iface ek.1 ek.2 else .nilIface
def ChkP (eb es ek : TypeId × Value) (F : FuncId) (one : Bool) (t : Tr) (d : Dt) : Prop := ∀ (P Q : Nat → Prop) (a : Option Addr) (c : Nat) (al : Option Addr) (cl : Nat) (af : Option Addr) (cf : Nat) (W : World), EC W eb es ek → LiesN W P a t.sub → LiesD W Q al d.l → LiesD W Q af d.f →
  Calls Tryz.prog F #[nodeV t a c, datumV d al cl af cf] W fun e w' => e = .returned (erV eb es ek (chk one t d)) ∧ Below W.heap.size W w'
theorem EC.two {W : World} {eb es ek : TypeId × Value} (h : EC W eb es ek) (o1 o2 : Obj) : EC ((W.alloc o1).alloc o2) eb es ek := h.keep (((Below.refl _ _).alloc (Nat.le_refl _) _).alloc (by simp) _)
def leafEr (no : Bool) (nl nf : Nat) (k kind n : Int) (len : Nat) : Nat := if (no || decide (0 < nl) || decide (0 < nf)) = true then 2 else if (!decide (k = kind) || !okV k k n len) = true then 3 else 0
set_option maxRecDepth 100000 in
set_option maxHeartbeats 1600000 in
/-- data.checkOne at a leaf. -/
theorem checkLeaf_any (eb es ek : TypeId × Value) (id rep kind : Int) (nm : ByteArray) (a : Option Addr) (ns c : Nat) (no : Bool) (k n : Int) (s : ByteArray) (al : Option Addr) (nl cl : Nat) (af : Option Addr) (nf cf : Nat) (W : World) (he : EC W eb es ek) (hk : kind ≠ 0) :
    Calls Tryz.prog 49 #[.agg #[.int .i64 id, .string nm, .int .i64 rep, .int .i64 kind, .slice a ns c], .agg #[.bool no, .int .i64 k, .int .i64 n, .string s, .slice al nl cl, .slice af nf cf]] W fun e w' => e = .returned (erV eb es ek (leafEr no nl nf k kind n s.size)) ∧ Below W.heap.size W w' := by
  have HB : Hid (Below W.heap.size W ((W.alloc (.cells #[.int .i64 id, .string nm, .int .i64 rep, .int .i64 kind, .slice a ns c] 24)).alloc (.cells #[.bool no, .int .i64 k, .int .i64 n, .string s, .slice al nl cl, .slice af nf cf] 58))) := ((Below.refl _ _).alloc (Nat.le_refl _) _).alloc (by simp) _
  have HEr : Hid (EC W eb es ek) := he
  have qk : (kind == 0) = false := by simp [hk]
  have HX : Hid (((W.alloc (.cells #[.int .i64 id, .string nm, .int .i64 rep, .int .i64 kind, .slice a ns c] 24)).alloc (.cells #[.bool no, .int .i64 k, .int .i64 n, .string s, .slice al nl cl, .slice af nf cf] 58)).heap[W.heap.size]? = some (.cells #[.int .i64 id, .string nm, .int .i64 rep, .int .i64 kind, .slice a ns c] 24 (0, 0))) := blk_alloc (heap_alloc_new W _)
  have HY : Hid (((W.alloc (.cells #[.int .i64 id, .string nm, .int .i64 rep, .int .i64 kind, .slice a ns c] 24)).alloc (.cells #[.bool no, .int .i64 k, .int .i64 n, .string s, .slice al nl cl, .slice af nf cf] 58)).heap[W.heap.size + 1]? = some (.cells #[.bool no, .int .i64 k, .int .i64 n, .string s, .slice al nl cl, .slice af nf cf] 58 (0, 0))) := (by
    have h := heap_alloc_new (W.alloc (.cells #[.int .i64 id, .string nm, .int .i64 rep, .int .i64 kind, .slice a ns c] 24)) (.cells #[.bool no, .int .i64 k, .int .i64 n, .string s, .slice al nl cl, .slice af nf cf] 58)
    rwa [show (W.alloc (.cells #[.int .i64 id, .string nm, .int .i64 rep, .int .i64 kind, .slice a ns c] 24)).heap.size = W.heap.size + 1 by simp] at h)
  have HK : Hid (kind ≠ 0) := hk
  clear he hk
  cases no with
  | true =>
    have g1 : ∀ o1 o2 : Obj, ((W.alloc o1).alloc o2).cell? ⟨1, 0, none⟩ = some (.iface es.1 es.2) := fun o1 o2 => (HEr.out.two o1 o2).s
    go_enter Tryz.func49, Tryz.ntmps49
    go_wp2
    go_ret
    exact ⟨by simp [erV, leafEr], HB.out⟩
  | false =>
    obtain ⟨b1, H1⟩ : ∃ b1, Hid (decide (0 < nl) = b1) := ⟨_, rfl⟩
    obtain ⟨b2, H2⟩ : ∃ b2, Hid (decide (0 < nf) = b2) := ⟨_, rfl⟩
    obtain ⟨b3, H3⟩ : ∃ b3, Hid (okV k k n s.size = b3) := ⟨_, rfl⟩
    go_enter Tryz.func49, Tryz.ntmps49
    go_wp2_with fail
    refine (hasElements_any false k n s al af nl cl nf cf _).mono ?_
    rw [H1.out]
    rintro e w1 ⟨rfl, hb1⟩
    have HB1 : Hid (Below W.heap.size W w1) := HB.out.trans (hb1.mono HB.out.size)
    have HX1 : Hid (w1.heap[W.heap.size]? = some (.cells #[.int .i64 id, .string nm, .int .i64 rep, .int .i64 kind, .slice a ns c] 24 (0, 0))) := blk_keep hb1 HX.out
    have HY1 : Hid (w1.heap[W.heap.size + 1]? = some (.cells #[.bool false, .int .i64 k, .int .i64 n, .string s, .slice al nl cl, .slice af nf cf] 58 (0, 0))) := blk_keep hb1 HY.out
    clear hb1
    cases b1 with
    | true =>
      have g1 := (HEr.out.keep HB1.out).s
      go_wp2
      go_ret
      exact ⟨by simp [erV, leafEr, H1.out], HB1.out⟩
    | false =>
      obtain ⟨d0, d1, d2, d3, d4, d5⟩ := row_six HY1.out
      go_wp2_with fail
      refine (hasFields_any false k n s al af nl cl nf cf _).mono ?_
      rw [H2.out]
      rintro e w2 ⟨rfl, hb2⟩
      have HB2 : Hid (Below W.heap.size W w2) := HB1.out.trans (hb2.mono HB1.out.size)
      have HX2 : Hid (w2.heap[W.heap.size]? = some (.cells #[.int .i64 id, .string nm, .int .i64 rep, .int .i64 kind, .slice a ns c] 24 (0, 0))) := blk_keep hb2 HX1.out
      have HY2 : Hid (w2.heap[W.heap.size + 1]? = some (.cells #[.bool false, .int .i64 k, .int .i64 n, .string s, .slice al nl cl, .slice af nf cf] 58 (0, 0))) := blk_keep hb2 HY1.out
      clear hb2 d0 d1 d2 d3 d4 d5
      cases b2 with
      | true =>
        have g1 := (HEr.out.keep HB2.out).s
        go_wp2
        go_ret
        exact ⟨by simp [erV, leafEr, H1.out, H2.out], HB2.out⟩
      | false =>
        obtain ⟨d0, d1, d2, d3, d4, d5⟩ := row_six HY2.out
        obtain ⟨⟨p0, p1, p2, p3, p4⟩, _⟩ := row_five HX2.out
        by_cases hkk : k = kind
        · subst hkk
          go_wp2_with fail
          refine (isValue_any k n s _).mono ?_
          rw [H3.out]
          rintro e w3 ⟨rfl, hb3⟩
          have HB3 : Hid (Below W.heap.size W w3) := HB2.out.trans (hb3.mono HB2.out.size)
          clear hb3 d0 d1 d2 d3 d4 d5 p0 p1 p2 p3 p4
          cases b3 with
          | true =>
            go_wp2
            go_ret
            exact ⟨by rw [leafEr, H1.out, H2.out, H3.out]; simp [erV], HB3.out⟩
          | false =>
            have g1 := (HEr.out.keep HB3.out).k
            go_wp2
            go_ret
            exact ⟨by rw [leafEr, H1.out, H2.out, H3.out]; simp [erV], HB3.out⟩
        · have q1 : (k == kind) = false := by simp [hkk]
          have HKK : Hid (leafEr false nl nf k kind n s.size = 3) := (by show _ = _; rw [leafEr, H1.out, H2.out]; simp [hkk])
          clear hkk
          have g1 := (HEr.out.keep HB2.out).k
          go_wp2
          go_ret
          exact ⟨by rw [HKK.out]; rfl, HB2.out⟩
end Go.Proofs.YtbicfjimlpdnkaaGreatDoor

namespace Go.Proofs.YtbicfjimlpdnkaaGreatDoor
open Go.RowKit
mutual
theorem chk_le : ∀ (d : Dt) (one : Bool) (t : Tr), chk one t d ≤ 3
  | .mk no v l f, one, t => by
    rw [chk]
    split
    · split
      · omega
      · split
        · omega
        · exact chkL_le l t
    · split
      · split <;> omega
      · split
        · split
          · omega
          · exact chkF_le f t.sub
        · split
          · omega
          · split <;> omega
theorem chkL_le : ∀ (ds : List Dt) (t : Tr), chkL t ds ≤ 3
  | [], t => by rw [chkL]; omega
  | d :: ds, t => by
    rw [chkL]
    split
    · exact chkL_le ds t
    · exact chk_le d true t
theorem chkF_le : ∀ (ds : List Dt) (ts : List Tr), chkF ts ds ≤ 3
  | [], ts => by cases ts <;> (rw [chkF]; omega)
  | d :: ds, [] => by rw [chkF]; omega
  | d :: ds, t :: ts => by
    rw [chkF]
    split
    · exact chkF_le ds ts
    · exact chk_le d false t
end
theorem erV_cases (eb es ek : TypeId × Value) (m : Nat) (h : m ≤ 3) : (m = 0 ∧ erV eb es ek m = .nilIface) ∨ (m ≠ 0 ∧ ∃ ty p, erV eb es ek m = .iface ty p) := by
  have hm : m = 0 ∨ m = 1 ∨ m = 2 ∨ m = 3 := by omega
  rcases hm with rfl | rfl | rfl | rfl
  · exact .inl ⟨rfl, rfl⟩
  · exact .inr ⟨by omega, _, _, rfl⟩
  · exact .inr ⟨by omega, _, _, rfl⟩
  · exact .inr ⟨by omega, _, _, rfl⟩
def noneEr (v : Vl) (nl nf : Nat) : Nat := if (hasV v || decide (0 < nl) || decide (0 < nf)) = true then 2 else 0
def grpEr (no : Bool) (v : Vl) (nl : Nat) (ts : List Tr) (fs : List Dt) : Nat := if (no || hasV v || decide (0 < nl) || !decide (fs.length = ts.length)) = true then 2 else chkF ts fs
def lstEr (no : Bool) (v : Vl) (t : Tr) (ls : List Dt) (nf : Nat) : Nat := if 40 < ls.length then 1 else if (no || hasV v || decide (0 < nf)) = true then 2 else chkL t ls
set_option maxRecDepth 100000 in
set_option maxHeartbeats 1600000 in
theorem checkNone_any (eb es ek : TypeId × Value) (no : Bool) (k n : Int) (s : ByteArray) (al : Option Addr) (nl cl : Nat) (af : Option Addr) (nf cf : Nat) (W : World) (he : EC W eb es ek) :
    Calls Tryz.prog 48 #[.agg #[.bool no, .int .i64 k, .int .i64 n, .string s, .slice al nl cl, .slice af nf cf]] W fun e w' => e = .returned (erV eb es ek (noneEr ⟨k, n, s⟩ nl nf)) ∧ Below W.heap.size W w' := by
  have HB : Hid (Below W.heap.size W (W.alloc (.cells #[.bool no, .int .i64 k, .int .i64 n, .string s, .slice al nl cl, .slice af nf cf] 58))) := (Below.refl _ _).alloc (Nat.le_refl _) _
  have HY : Hid ((W.alloc (.cells #[.bool no, .int .i64 k, .int .i64 n, .string s, .slice al nl cl, .slice af nf cf] 58)).heap[W.heap.size]? = some (.cells #[.bool no, .int .i64 k, .int .i64 n, .string s, .slice al nl cl, .slice af nf cf] 58 (0, 0))) := heap_alloc_new W _
  have HEr : Hid (EC W eb es ek) := he
  obtain ⟨b0, H0⟩ : ∃ b0, Hid (hasV ⟨k, n, s⟩ = b0) := ⟨_, rfl⟩
  obtain ⟨b1, H1⟩ : ∃ b1, Hid (decide (0 < nl) = b1) := ⟨_, rfl⟩
  obtain ⟨b2, H2⟩ : ∃ b2, Hid (decide (0 < nf) = b2) := ⟨_, rfl⟩
  clear he
  go_enter Tryz.func48, Tryz.ntmps48
  go_wp2_with fail
  refine (hasValue_any no k n s al af nl cl nf cf _).mono ?_
  rw [H0.out]
  rintro e w1 ⟨rfl, hb1⟩
  have HB1 : Hid (Below W.heap.size W w1) := HB.out.trans (hb1.mono HB.out.size)
  have HY1 : Hid (w1.heap[W.heap.size]? = some (.cells #[.bool no, .int .i64 k, .int .i64 n, .string s, .slice al nl cl, .slice af nf cf] 58 (0, 0))) := blk_keep hb1 HY.out
  clear hb1
  cases b0 with
  | true =>
    have g1 := (HEr.out.keep HB1.out).s
    go_wp2
    go_ret
    exact ⟨by rw [noneEr, H0.out]; rfl, HB1.out⟩
  | false =>
    obtain ⟨d0, d1, d2, d3, d4, d5⟩ := row_six HY1.out
    go_wp2_with fail
    refine (hasElements_any no k n s al af nl cl nf cf _).mono ?_
    rw [H1.out]
    rintro e w2 ⟨rfl, hb2⟩
    have HB2 : Hid (Below W.heap.size W w2) := HB1.out.trans (hb2.mono HB1.out.size)
    have HY2 : Hid (w2.heap[W.heap.size]? = some (.cells #[.bool no, .int .i64 k, .int .i64 n, .string s, .slice al nl cl, .slice af nf cf] 58 (0, 0))) := blk_keep hb2 HY1.out
    clear hb2 d0 d1 d2 d3 d4 d5
    cases b1 with
    | true =>
      have g1 := (HEr.out.keep HB2.out).s
      go_wp2
      go_ret
      exact ⟨by rw [noneEr, H0.out, H1.out]; rfl, HB2.out⟩
    | false =>
      obtain ⟨d0, d1, d2, d3, d4, d5⟩ := row_six HY2.out
      go_wp2_with fail
      refine (hasFields_any no k n s al af nl cl nf cf _).mono ?_
      rw [H2.out]
      rintro e w3 ⟨rfl, hb3⟩
      have HB3 : Hid (Below W.heap.size W w3) := HB2.out.trans (hb3.mono HB2.out.size)
      clear hb3 d0 d1 d2 d3 d4 d5
      cases b2 with
      | true =>
        have g1 := (HEr.out.keep HB3.out).s
        go_wp2
        go_ret
        exact ⟨by rw [noneEr, H0.out, H1.out, H2.out]; rfl, HB3.out⟩
      | false =>
        go_wp2
        go_ret
        exact ⟨by rw [noneEr, H0.out, H1.out, H2.out]; rfl, HB3.out⟩
set_option maxRecDepth 100000 in
set_option maxHeartbeats 1600000 in
theorem checkGroup_of (eb es ek : TypeId × Value) (t : Tr) (a : Option Addr) (c : Nat) (no : Bool) (k n : Int) (s : ByteArray) (al : Option Addr) (nl cl : Nat) (af : Option Addr) (cf : Nat) (fs : List Dt) (hsm : t.sub.length ≤ 1048576) (P Q : Nat → Prop) (W : World) (he : EC W eb es ek) (hl : LiesN W P a t.sub) (hf : LiesD W Q af fs)
    (IH : Hid (∀ j (hj : j < fs.length) (hj' : j < t.sub.length), ChkP eb es ek 31 false t.sub[j] fs[j])) :
    Calls Tryz.prog 84 #[nodeV t a c, .agg #[.bool no, .int .i64 k, .int .i64 n, .string s, .slice al nl cl, .slice af fs.length cf]] W fun e w' => e = .returned (erV eb es ek (grpEr no ⟨k, n, s⟩ nl t.sub fs)) ∧ Below W.heap.size W w' := by
  have HB : Hid (Below W.heap.size W ((W.alloc (.cells #[.int .i64 t.id, .string t.nm, .int .i64 t.rep, .int .i64 t.kind, .slice a t.sub.length c] 24)).alloc (.cells #[.bool no, .int .i64 k, .int .i64 n, .string s, .slice al nl cl, .slice af fs.length cf] 58))) := ((Below.refl _ _).alloc (Nat.le_refl _) _).alloc (by simp) _
  have HX : Hid (((W.alloc (.cells #[.int .i64 t.id, .string t.nm, .int .i64 t.rep, .int .i64 t.kind, .slice a t.sub.length c] 24)).alloc (.cells #[.bool no, .int .i64 k, .int .i64 n, .string s, .slice al nl cl, .slice af fs.length cf] 58)).heap[W.heap.size]? = some (.cells #[.int .i64 t.id, .string t.nm, .int .i64 t.rep, .int .i64 t.kind, .slice a t.sub.length c] 24 (0, 0))) := blk_alloc (heap_alloc_new W _)
  have HY : Hid (((W.alloc (.cells #[.int .i64 t.id, .string t.nm, .int .i64 t.rep, .int .i64 t.kind, .slice a t.sub.length c] 24)).alloc (.cells #[.bool no, .int .i64 k, .int .i64 n, .string s, .slice al nl cl, .slice af fs.length cf] 58)).heap[W.heap.size + 1]? = some (.cells #[.bool no, .int .i64 k, .int .i64 n, .string s, .slice al nl cl, .slice af fs.length cf] 58 (0, 0))) := (by
    have h := heap_alloc_new (W.alloc (.cells #[.int .i64 t.id, .string t.nm, .int .i64 t.rep, .int .i64 t.kind, .slice a t.sub.length c] 24)) (.cells #[.bool no, .int .i64 k, .int .i64 n, .string s, .slice al nl cl, .slice af fs.length cf] 58)
    rwa [show (W.alloc (.cells #[.int .i64 t.id, .string t.nm, .int .i64 t.rep, .int .i64 t.kind, .slice a t.sub.length c] 24)).heap.size = W.heap.size + 1 by simp] at h)
  have HEr : Hid (EC W eb es ek) := he
  have HL : Hid (LiesN W P a t.sub) := hl
  have HD : Hid (LiesD W Q af fs) := hf
  obtain ⟨b0, H0⟩ : ∃ b0, Hid (hasV ⟨k, n, s⟩ = b0) := ⟨_, rfl⟩
  obtain ⟨b1, H1⟩ : ∃ b1, Hid (decide (0 < nl) = b1) := ⟨_, rfl⟩
  clear he hl hf
  unfold nodeV
  cases no with
  | true =>
    have g1 : ∀ o1 o2 : Obj, ((W.alloc o1).alloc o2).cell? ⟨1, 0, none⟩ = some (.iface es.1 es.2) := fun o1 o2 => (HEr.out.two o1 o2).s
    go_enter Tryz.func84, Tryz.ntmps84
    go_wp2
    go_ret
    exact ⟨by rw [grpEr]; rfl, HB.out⟩
  | false =>
    go_enter Tryz.func84, Tryz.ntmps84
    go_wp2_with fail
    refine (hasValue_any false k n s al af nl cl fs.length cf _).mono ?_
    rw [H0.out]
    rintro e w1 ⟨rfl, hb1⟩
    have HB1 : Hid (Below W.heap.size W w1) := HB.out.trans (hb1.mono HB.out.size)
    have HX1 : Hid (w1.heap[W.heap.size]? = some (.cells #[.int .i64 t.id, .string t.nm, .int .i64 t.rep, .int .i64 t.kind, .slice a t.sub.length c] 24 (0, 0))) := blk_keep hb1 HX.out
    have HY1 : Hid (w1.heap[W.heap.size + 1]? = some (.cells #[.bool false, .int .i64 k, .int .i64 n, .string s, .slice al nl cl, .slice af fs.length cf] 58 (0, 0))) := blk_keep hb1 HY.out
    clear hb1 HX HY
    cases b0 with
    | true =>
      have g1 := (HEr.out.keep HB1.out).s
      go_wp2
      go_ret
      exact ⟨by rw [grpEr, H0.out]; rfl, HB1.out⟩
    | false =>
      obtain ⟨d0, d1, d2, d3, d4, d5⟩ := row_six HY1.out
      go_wp2_with fail
      refine (hasElements_any false k n s al af nl cl fs.length cf _).mono ?_
      rw [H1.out]
      rintro e w2 ⟨rfl, hb2⟩
      have HB2 : Hid (Below W.heap.size W w2) := HB1.out.trans (hb2.mono HB1.out.size)
      have HX2 : Hid (w2.heap[W.heap.size]? = some (.cells #[.int .i64 t.id, .string t.nm, .int .i64 t.rep, .int .i64 t.kind, .slice a t.sub.length c] 24 (0, 0))) := blk_keep hb2 HX1.out
      have HY2 : Hid (w2.heap[W.heap.size + 1]? = some (.cells #[.bool false, .int .i64 k, .int .i64 n, .string s, .slice al nl cl, .slice af fs.length cf] 58 (0, 0))) := blk_keep hb2 HY1.out
      clear hb2 d0 d1 d2 d3 d4 d5 HX1 HY1
      obtain ⟨d0, d1, d2, d3, d4, d5⟩ := row_six HY2.out
      obtain ⟨⟨p0, p1, p2, p3, p4⟩, _⟩ := row_five HX2.out
      cases b1 with
      | true =>
        have g1 := (HEr.out.keep HB2.out).s
        go_wp2
        go_ret
        exact ⟨by rw [grpEr, H0.out, H1.out]; rfl, HB2.out⟩
      | false =>
        by_cases hn : fs.length = t.sub.length
        · have q : ((fs.length : Int) == (t.sub.length : Int)) = true := by simp [hn]
          have HE : Hid (grpEr false ⟨k, n, s⟩ nl t.sub fs = chkF t.sub fs) := (by show _ = _; rw [grpEr, H0.out, H1.out]; simp [hn])
          have HN : Hid (fs.length = t.sub.length) := hn
          clear hn
          go_wp2
          clear q
          generalize ((fs.length : Int) != (t.sub.length : Int)) = bq
          go_loopw [31] (fun x wr => ∃ i : Nat, i ≤ t.sub.length ∧ x = .int .i64 i ∧ Hid (chkF t.sub fs = chkF (t.sub.drop i) (fs.drop i)) ∧ Hid (Below W.heap.size W wr) ∧ Hid (wr.heap[W.heap.size]? = some (.cells #[.int .i64 t.id, .string t.nm, .int .i64 t.rep, .int .i64 t.kind, .slice a t.sub.length c] 24 (0, 0))) ∧ Hid (wr.heap[W.heap.size + 1]? = some (.cells #[.bool false, .int .i64 k, .int .i64 n, .string s, .slice al nl cl, .slice af fs.length cf] 58 (0, 0)))) (fun x _ => t.sub.length - (intOf x).toNat)
          case atStart => exact ⟨0, Nat.zero_le _, rfl, rfl, HB2, HX2, HY2⟩
          case round =>
            clear HB2 HX2 HY2 d0 d1 d2 d3 d4 d5 p0 p1 p2 p3 p4 HB HB1
            obtain ⟨i, hi, rfl, HA, HB, HX, HY⟩ := hrel
            by_cases hlt : i < t.sub.length
            · have hlt' : i < fs.length := by rw [HN.out]; exact hlt
              obtain ⟨b, o, a1, c1, ea, d0, d1, d2, d3, d4, hl1⟩ := (HL.out.keep HB.out).at_ i hlt
              subst ea
              obtain ⟨b', o', al1, cl1, af1, cf1, ea, ⟨e0, e1, e2, e3, e4, e5⟩, hd1, hd2⟩ := (HD.out.keep HB.out).at_ i hlt'
              subst ea
              have hb2 : Below wr.heap.size wr (wr.alloc (.cells #[.int .i64 t.sub[i].id, .string t.sub[i].nm, .int .i64 t.sub[i].rep, .int .i64 t.sub[i].kind, .slice a1 t.sub[i].sub.length c1] 24)) := (Below.refl _ _).alloc (Nat.le_refl _) _
              have HB2 : Hid _ := hb2
              have HCk : Hid _ := IH.out i hlt' hlt P Q a1 c1 al1 cl1 af1 cf1 (wr.alloc (.cells #[.int .i64 t.sub[i].id, .string t.sub[i].nm, .int .i64 t.sub[i].rep, .int .i64 t.sub[i].kind, .slice a1 t.sub[i].sub.length c1] 24)).drew ((HEr.out.keep HB.out).keep hb2.drew) ((hl1.keep hb2).stay (fun _ h _ => h) (fun _ _ _ => rfl)) ((hd1.keep hb2).stay (fun _ h _ => h) (fun _ _ _ => rfl)) ((hd2.keep hb2).stay (fun _ h _ => h) (fun _ _ _ => rfl))
              obtain ⟨m, hm⟩ : ∃ m, chk false t.sub[i] fs[i] = m := ⟨_, rfl⟩
              have hle := chk_le fs[i] false t.sub[i]
              have hst := chkF_drop t.sub fs i hlt' hlt
              rw [hm] at hle hst
              have HCk2 := HCk.out
              rw [hm] at HCk2
              have HCk2 : Hid _ := HCk2
              have HSt : Hid _ := hst
              have HLe : Hid _ := hle
              clear hst hle hm HCk hl1 hd1 hd2
              obtain ⟨x0, x1, x2, x3, x4, x5⟩ := row_six (blk_alloc (o' := (.cells #[.int .i64 t.sub[i].id, .string t.sub[i].nm, .int .i64 t.sub[i].rep, .int .i64 t.sub[i].kind, .slice a1 t.sub[i].sub.length c1] 24)) HY.out)
              have y0 := (hb2.cell (World.block_lt_of_cell? wr _ e0)).trans e0
              have y1 := (hb2.cell (World.block_lt_of_cell? wr _ e1)).trans e1
              have y2 := (hb2.cell (World.block_lt_of_cell? wr _ e2)).trans e2
              have y3 := (hb2.cell (World.block_lt_of_cell? wr _ e3)).trans e3
              have y4 := (hb2.cell (World.block_lt_of_cell? wr _ e4)).trans e4
              have y5 := (hb2.cell (World.block_lt_of_cell? wr _ e5)).trans e5
              clear hb2 e0 e1 e2 e3 e4 e5
              go_wp2_with fail
              go_region_law (go_simp; refine Calls.mono HCk2.out ?_; rintro e w3 ⟨rfl, hb3'⟩; have HB3 : Hid (Below wr.heap.size wr w3) := HB2.out.drew.trans (hb3'.mono HB2.out.size); clear hb3')
              all_goals
                have HB4 : Hid (Below W.heap.size W w3) := HB.out.trans (HB3.out.mono HB.out.size)
                have HX4 : Hid (w3.heap[W.heap.size]? = some (.cells #[.int .i64 t.id, .string t.nm, .int .i64 t.rep, .int .i64 t.kind, .slice (some ⟨b, o, none⟩) t.sub.length c] 24 (0, 0))) := blk_keep HB3.out HX.out
                have HY4 : Hid (w3.heap[W.heap.size + 1]? = some (.cells #[.bool false, .int .i64 k, .int .i64 n, .string s, .slice al nl cl, .slice (some ⟨b', o', none⟩) fs.length cf] 58 (0, 0))) := blk_keep HB3.out HY.out
                rcases erV_cases eb es ek m HLe.out with ⟨hm0, he0⟩ | ⟨hm0, ty, pp, he0⟩
                · have HN2 : Hid (chkF t.sub fs = chkF (t.sub.drop (i + 1)) (fs.drop (i + 1))) := (by show _ = _; rw [HA.out, HSt.out, if_pos hm0])
                  rw [he0]
                  clear he0 hm0
                  go_wp2
                  go_roundw
                  case rel => exact ⟨i + 1, by omega, by go_num, HN2, HB4, HX4, HY4⟩
                  case measure => simp [intOf]; omega
                · have HN2 : Hid (erV eb es ek (chkF t.sub fs) = .iface ty pp) := (by show _ = _; rw [HA.out, HSt.out, if_neg hm0]; exact he0)
                  rw [he0]
                  clear he0 hm0
                  go_wp2
                  go_ret
                  exact ⟨by rw [HE.out, HN2.out]; rfl, HB4.out⟩
            · obtain rfl : i = t.sub.length := by omega
              have HZ : Hid (chkF t.sub fs = 0) := (by
                show _ = _
                rw [HA.out, List.drop_length, ← HN.out, List.drop_length]
                rw [chkF])
              go_wp2
              go_ret
              exact ⟨by rw [HE.out, HZ.out]; rfl, HB.out⟩
        · have q : ((fs.length : Int) == (t.sub.length : Int)) = false := by rw [beq_eq_false_iff_ne]; omega
          have HE : Hid (grpEr false ⟨k, n, s⟩ nl t.sub fs = 2) := (by show _ = _; rw [grpEr, H0.out, H1.out]; simp [hn])
          have g1 := (HEr.out.keep HB2.out).s
          clear hn
          go_wp2
          go_ret
          exact ⟨by rw [HE.out]; rfl, HB2.out⟩
end Go.Proofs.YtbicfjimlpdnkaaGreatDoor

namespace Go.Proofs.YtbicfjimlpdnkaaGreatDoor
open Go.RowKit
set_option maxRecDepth 100000 in
set_option maxHeartbeats 1600000 in
theorem checkList_of (eb es ek : TypeId × Value) (t : Tr) (a : Option Addr) (c : Nat) (no : Bool) (k n : Int) (s : ByteArray) (al : Option Addr) (cl : Nat) (ls : List Dt) (af : Option Addr) (nf cf : Nat) (hsm : ls.length ≤ 1048576) (P Q : Nat → Prop) (W : World) (he : EC W eb es ek) (hl : LiesN W P a t.sub) (hf : LiesD W Q al ls)
    (IH : Hid (∀ j (hj : j < ls.length), ChkP eb es ek 49 true t ls[j])) :
    Calls Tryz.prog 47 #[nodeV t a c, .agg #[.bool no, .int .i64 k, .int .i64 n, .string s, .slice al ls.length cl, .slice af nf cf]] W fun e w' => e = .returned (erV eb es ek (lstEr no ⟨k, n, s⟩ t ls nf)) ∧ Below W.heap.size W w' := by
  have HB : Hid (Below W.heap.size W ((W.alloc (.cells #[.int .i64 t.id, .string t.nm, .int .i64 t.rep, .int .i64 t.kind, .slice a t.sub.length c] 24)).alloc (.cells #[.bool no, .int .i64 k, .int .i64 n, .string s, .slice al ls.length cl, .slice af nf cf] 58))) := ((Below.refl _ _).alloc (Nat.le_refl _) _).alloc (by simp) _
  have HX : Hid (((W.alloc (.cells #[.int .i64 t.id, .string t.nm, .int .i64 t.rep, .int .i64 t.kind, .slice a t.sub.length c] 24)).alloc (.cells #[.bool no, .int .i64 k, .int .i64 n, .string s, .slice al ls.length cl, .slice af nf cf] 58)).heap[W.heap.size]? = some (.cells #[.int .i64 t.id, .string t.nm, .int .i64 t.rep, .int .i64 t.kind, .slice a t.sub.length c] 24 (0, 0))) := blk_alloc (heap_alloc_new W _)
  have HY : Hid (((W.alloc (.cells #[.int .i64 t.id, .string t.nm, .int .i64 t.rep, .int .i64 t.kind, .slice a t.sub.length c] 24)).alloc (.cells #[.bool no, .int .i64 k, .int .i64 n, .string s, .slice al ls.length cl, .slice af nf cf] 58)).heap[W.heap.size + 1]? = some (.cells #[.bool no, .int .i64 k, .int .i64 n, .string s, .slice al ls.length cl, .slice af nf cf] 58 (0, 0))) := (by
    have h := heap_alloc_new (W.alloc (.cells #[.int .i64 t.id, .string t.nm, .int .i64 t.rep, .int .i64 t.kind, .slice a t.sub.length c] 24)) (.cells #[.bool no, .int .i64 k, .int .i64 n, .string s, .slice al ls.length cl, .slice af nf cf] 58)
    rwa [show (W.alloc (.cells #[.int .i64 t.id, .string t.nm, .int .i64 t.rep, .int .i64 t.kind, .slice a t.sub.length c] 24)).heap.size = W.heap.size + 1 by simp] at h)
  have HEr : Hid (EC W eb es ek) := he
  have HL : Hid (LiesN W P a t.sub) := hl
  have HD : Hid (LiesD W Q al ls) := hf
  obtain ⟨b0, H0⟩ : ∃ b0, Hid (hasV ⟨k, n, s⟩ = b0) := ⟨_, rfl⟩
  obtain ⟨b1, H1⟩ : ∃ b1, Hid (decide (0 < nf) = b1) := ⟨_, rfl⟩
  have g1 : ∀ o1 o2 : Obj, ((W.alloc o1).alloc o2).cell? ⟨0, 0, none⟩ = some (.iface eb.1 eb.2) := fun o1 o2 => (HEr.out.two o1 o2).b
  have g2 : ∀ o1 o2 : Obj, ((W.alloc o1).alloc o2).cell? ⟨1, 0, none⟩ = some (.iface es.1 es.2) := fun o1 o2 => (HEr.out.two o1 o2).s
  clear he hl hf
  unfold nodeV
  by_cases h40 : 40 < ls.length
  · have HE : Hid (lstEr no ⟨k, n, s⟩ t ls nf = 1) := (by show _ = _; rw [lstEr, if_pos h40])
    have q : decide ((40 : Int) < (ls.length : Int)) = true := by simp; omega
    go_enter Tryz.func47, Tryz.ntmps47
    go_wp2
    go_ret
    exact ⟨by rw [HE.out]; rfl, HB.out⟩
  · have q : decide ((40 : Int) < (ls.length : Int)) = false := by simp; omega
    have HE0 : Hid (lstEr no ⟨k, n, s⟩ t ls nf = if (no || hasV ⟨k, n, s⟩ || decide (0 < nf)) = true then 2 else chkL t ls) := (by show _ = _; rw [lstEr, if_neg h40])
    cases no with
    | true =>
      go_enter Tryz.func47, Tryz.ntmps47
      go_wp2
      go_ret
      exact ⟨by rw [HE0.out]; rfl, HB.out⟩
    | false =>
      clear g1 g2
      go_enter Tryz.func47, Tryz.ntmps47
      go_wp2_with fail
      refine (hasValue_any false k n s al af ls.length cl nf cf _).mono ?_
      rw [H0.out]
      rintro e w1 ⟨rfl, hb1⟩
      have HB1 : Hid (Below W.heap.size W w1) := HB.out.trans (hb1.mono HB.out.size)
      have HX1 : Hid (w1.heap[W.heap.size]? = some (.cells #[.int .i64 t.id, .string t.nm, .int .i64 t.rep, .int .i64 t.kind, .slice a t.sub.length c] 24 (0, 0))) := blk_keep hb1 HX.out
      have HY1 : Hid (w1.heap[W.heap.size + 1]? = some (.cells #[.bool false, .int .i64 k, .int .i64 n, .string s, .slice al ls.length cl, .slice af nf cf] 58 (0, 0))) := blk_keep hb1 HY.out
      clear hb1 HX HY
      cases b0 with
      | true =>
        have g1 := (HEr.out.keep HB1.out).s
        go_wp2
        go_ret
        exact ⟨by rw [HE0.out, H0.out]; rfl, HB1.out⟩
      | false =>
        obtain ⟨d0, d1, d2, d3, d4, d5⟩ := row_six HY1.out
        go_wp2_with fail
        refine (hasFields_any false k n s al af ls.length cl nf cf _).mono ?_
        rw [H1.out]
        rintro e w2 ⟨rfl, hb2⟩
        have HB2 : Hid (Below W.heap.size W w2) := HB1.out.trans (hb2.mono HB1.out.size)
        have HX2 : Hid (w2.heap[W.heap.size]? = some (.cells #[.int .i64 t.id, .string t.nm, .int .i64 t.rep, .int .i64 t.kind, .slice a t.sub.length c] 24 (0, 0))) := blk_keep hb2 HX1.out
        have HY2 : Hid (w2.heap[W.heap.size + 1]? = some (.cells #[.bool false, .int .i64 k, .int .i64 n, .string s, .slice al ls.length cl, .slice af nf cf] 58 (0, 0))) := blk_keep hb2 HY1.out
        clear hb2 d0 d1 d2 d3 d4 d5 HX1 HY1
        obtain ⟨d0, d1, d2, d3, d4, d5⟩ := row_six HY2.out
        cases b1 with
        | true =>
          have g1 := (HEr.out.keep HB2.out).s
          go_wp2
          go_ret
          exact ⟨by rw [HE0.out, H0.out, H1.out]; rfl, HB2.out⟩
        | false =>
          have HE : Hid (lstEr false ⟨k, n, s⟩ t ls nf = chkL t ls) := (by show _ = _; rw [HE0.out, H0.out, H1.out]; rfl)
          go_wp2
          clear q
          generalize (decide ((40 : Int) < (ls.length : Int))) = bq
          go_loopw [27] (fun x wr => ∃ i : Nat, i ≤ ls.length ∧ x = .int .i64 i ∧ Hid (chkL t ls = chkL t (ls.drop i)) ∧ Hid (Below W.heap.size W wr) ∧ Hid (wr.heap[W.heap.size]? = some (.cells #[.int .i64 t.id, .string t.nm, .int .i64 t.rep, .int .i64 t.kind, .slice a t.sub.length c] 24 (0, 0))) ∧ Hid (wr.heap[W.heap.size + 1]? = some (.cells #[.bool false, .int .i64 k, .int .i64 n, .string s, .slice al ls.length cl, .slice af nf cf] 58 (0, 0)))) (fun x _ => ls.length - (intOf x).toNat)
          case atStart => exact ⟨0, Nat.zero_le _, rfl, rfl, HB2, HX2, HY2⟩
          case round =>
            clear HB2 HX2 HY2 d0 d1 d2 d3 d4 d5 HB HB1
            obtain ⟨i, hi, rfl, HA, HB, HX, HY⟩ := hrel
            by_cases hlt : i < ls.length
            · obtain ⟨b', o', al1, cl1, af1, cf1, ea, ⟨e0, e1, e2, e3, e4, e5⟩, hd1, hd2⟩ := (HD.out.keep HB.out).at_ i hlt
              subst ea
              have hb2 : Below wr.heap.size wr (wr.alloc (.cells #[.bool ls[i].no, .int .i64 ls[i].v.k, .int .i64 ls[i].v.n, .string ls[i].v.s, .slice al1 ls[i].l.length cl1, .slice af1 ls[i].f.length cf1] 58)) := (Below.refl _ _).alloc (Nat.le_refl _) _
              have HB2 : Hid _ := hb2
              have HCk2 := IH.out i hlt P Q a c al1 cl1 af1 cf1 (wr.alloc (.cells #[.bool ls[i].no, .int .i64 ls[i].v.k, .int .i64 ls[i].v.n, .string ls[i].v.s, .slice al1 ls[i].l.length cl1, .slice af1 ls[i].f.length cf1] 58)) ((HEr.out.keep HB.out).keep hb2) ((HL.out.keep HB.out).keep hb2) (hd1.keep hb2) (hd2.keep hb2)
              obtain ⟨m, hm⟩ : ∃ m, chk true t ls[i] = m := ⟨_, rfl⟩
              have hle := chk_le ls[i] true t
              have hst := chkL_drop t ls i hlt
              rw [hm] at hle hst HCk2
              have HCk2 : Hid _ := HCk2
              have HSt : Hid _ := hst
              have HLe : Hid _ := hle
              clear hst hle hm hd1 hd2
              obtain ⟨⟨p0, p1, p2, p3, p4⟩, _⟩ := row_five (blk_alloc (o' := (.cells #[.bool ls[i].no, .int .i64 ls[i].v.k, .int .i64 ls[i].v.n, .string ls[i].v.s, .slice al1 ls[i].l.length cl1, .slice af1 ls[i].f.length cf1] 58)) HX.out)
              clear hb2
              go_wp2_with fail
              refine Calls.mono HCk2.out ?_
              rintro e w3 ⟨rfl, hb3'⟩
              have HB3 : Hid (Below wr.heap.size wr w3) := HB2.out.trans (hb3'.mono HB2.out.size)
              clear hb3'
              have HB4 : Hid (Below W.heap.size W w3) := HB.out.trans (HB3.out.mono HB.out.size)
              have HX4 : Hid (w3.heap[W.heap.size]? = some (.cells #[.int .i64 t.id, .string t.nm, .int .i64 t.rep, .int .i64 t.kind, .slice a t.sub.length c] 24 (0, 0))) := blk_keep HB3.out HX.out
              have HY4 : Hid (w3.heap[W.heap.size + 1]? = some (.cells #[.bool false, .int .i64 k, .int .i64 n, .string s, .slice (some ⟨b', o', none⟩) ls.length cl, .slice af nf cf] 58 (0, 0))) := blk_keep HB3.out HY.out
              rcases erV_cases eb es ek m HLe.out with ⟨hm0, he0⟩ | ⟨hm0, ty, pp, he0⟩
              · have HN2 : Hid (chkL t ls = chkL t (ls.drop (i + 1))) := (by show _ = _; rw [HA.out, HSt.out, if_pos hm0])
                rw [he0]
                clear he0 hm0
                go_wp2
                go_roundw
                case rel => exact ⟨i + 1, by omega, by go_num, HN2, HB4, HX4, HY4⟩
                case measure => simp [intOf]; omega
              · have HN2 : Hid (erV eb es ek (chkL t ls) = .iface ty pp) := (by show _ = _; rw [HA.out, HSt.out, if_neg hm0]; exact he0)
                rw [he0]
                clear he0 hm0
                go_wp2
                go_ret
                exact ⟨by rw [HE.out, HN2.out]; rfl, HB4.out⟩
            · obtain rfl : i = ls.length := by omega
              have HZ : Hid (chkL t ls = 0) := (by show _ = _; rw [HA.out, List.drop_length]; rw [chkL])
              go_wp2
              go_ret
              exact ⟨by rw [HE.out, HZ.out]; rfl, HB.out⟩
end Go.Proofs.YtbicfjimlpdnkaaGreatDoor

namespace Go.Proofs.YtbicfjimlpdnkaaGreatDoor
open Go.RowKit
theorem chkL_each (t : Tr) : ∀ ds, chkL t ds = 0 → ∀ j (h : j < ds.length), chk true t ds[j] = 0
  | [], _, j, h => absurd h (Nat.not_lt_zero _)
  | d :: ds, h0, j, h => by
    rw [chkL] at h0
    by_cases e : chk true t d = 0
    · rw [if_pos e] at h0
      cases j with
      | zero => exact e
      | succ j => exact chkL_each t ds h0 j (by simpa using h)
    · rw [if_neg e] at h0
      exact absurd h0 e
theorem chkF_each : ∀ (ts : List Tr) (ds : List Dt), chkF ts ds = 0 → ∀ j (h : j < ts.length) (h' : j < ds.length), chk false ts[j] ds[j] = 0
  | [], _, _, j, h, _ => absurd h (Nat.not_lt_zero _)
  | _ :: _, [], _, j, _, h' => absurd h' (Nat.not_lt_zero _)
  | t :: ts, d :: ds, h0, j, h, h' => by
    rw [chkF] at h0
    by_cases e : chk false t d = 0
    · rw [if_pos e] at h0
      cases j with
      | zero => exact e
      | succ j => exact chkF_each ts ds h0 j (by simpa using h) (by simpa using h')
    · rw [if_neg e] at h0
      exact absurd h0 e
theorem hasV_no {v : Vl} (h : hasV v = false) : v = ⟨0, 0, ⟨#[]⟩⟩ := by
  obtain ⟨k, n, s⟩ := v
  simp only [hasV, Bool.not_eq_false', decide_eq_true_eq] at h
  obtain ⟨rfl, rfl, h⟩ := h
  have h0 : s.size = 0 := (toList_nil s).1 h
  cases s with
  | mk a =>
    have : a = #[] := by
      have h1 : a.size = 0 := h0
      exact Array.eq_empty_of_size_eq_zero h1
    rw [this]
theorem nil_of {α : Type} {l : List α} (h : decide (0 < l.length) = false) : l = [] := by
  cases l with
  | nil => rfl
  | cons _ _ => simp at h
/-- What a right datum is: one of four. -/
inductive Kd (one : Bool) (t : Tr) : Dt → Prop where
  | list (l : List Dt) (h1 : one = false) (h3 : t.rep = 3) (hl : l.length ≤ 40) (each : ∀ j (h : j < l.length), chk true t l[j] = 0) : Kd one t (.mk false ⟨0, 0, ⟨#[]⟩⟩ l [])
  | none (h1 : one = false) (h2 : t.rep = 2) : Kd one t (.mk true ⟨0, 0, ⟨#[]⟩⟩ [] [])
  | group (f : List Dt) (h1 : ¬ (one = false ∧ t.rep = 3)) (hk : t.kind = 0) (hl : f.length = t.sub.length) (each : ∀ j (h : j < t.sub.length) (h' : j < f.length), chk false t.sub[j] f[j] = 0) : Kd one t (.mk false ⟨0, 0, ⟨#[]⟩⟩ [] f)
  | leaf (v : Vl) (h1 : ¬ (one = false ∧ t.rep = 3)) (hk : t.kind ≠ 0) (hv : v.k = t.kind) (ok : OkV v.k v.k v.n v.s.size) : Kd one t (.mk false v [] [])
theorem kd_of {one : Bool} {t : Tr} {d : Dt} (h : chk one t d = 0) : Kd one t d := by
  obtain ⟨no, v, l, f⟩ := d
  rw [chk] at h
  by_cases c1 : one = false ∧ t.rep = 3
  · rw [if_pos c1] at h
    by_cases c2 : 40 < l.length
    · rw [if_pos c2] at h; omega
    rw [if_neg c2] at h
    by_cases c3 : (no || hasV v || decide (0 < f.length)) = true
    · rw [if_pos c3] at h; omega
    rw [if_neg c3] at h
    simp only [Bool.not_eq_true, Bool.or_eq_false_iff] at c3
    obtain ⟨⟨rfl, e2⟩, e3⟩ := c3
    obtain rfl := hasV_no e2
    obtain rfl := nil_of e3
    exact .list l c1.1 c1.2 (by omega) (chkL_each t l h)
  rw [if_neg c1] at h
  by_cases c2 : one = false ∧ t.rep = 2 ∧ no = true
  · rw [if_pos c2] at h
    by_cases c3 : (hasV v || decide (0 < l.length) || decide (0 < f.length)) = true
    · rw [if_pos c3] at h; omega
    simp only [Bool.not_eq_true, Bool.or_eq_false_iff] at c3
    obtain ⟨⟨e1, e2⟩, e3⟩ := c3
    obtain rfl := hasV_no e1
    obtain rfl := nil_of e2
    obtain rfl := nil_of e3
    obtain ⟨a1, a2, rfl⟩ := c2
    exact .none a1 a2
  rw [if_neg c2] at h
  by_cases c3 : t.kind = 0
  · rw [if_pos c3] at h
    by_cases c4 : (no || hasV v || decide (0 < l.length) || !decide (f.length = t.sub.length)) = true
    · rw [if_pos c4] at h; omega
    rw [if_neg c4] at h
    simp only [Bool.not_eq_true, Bool.or_eq_false_iff, Bool.not_eq_false', decide_eq_true_eq] at c4
    obtain ⟨⟨⟨rfl, e1⟩, e2⟩, e3⟩ := c4
    obtain rfl := hasV_no e1
    obtain rfl := nil_of e2
    exact .group f c1 c3 e3 (chkF_each t.sub f h)
  rw [if_neg c3] at h
  by_cases c4 : (no || decide (0 < l.length) || decide (0 < f.length)) = true
  · rw [if_pos c4] at h; omega
  rw [if_neg c4] at h
  by_cases c5 : (!decide (v.k = t.kind) || !okV v.k v.k v.n v.s.size) = true
  · rw [if_pos c5] at h; omega
  simp only [Bool.not_eq_true, Bool.or_eq_false_iff, Bool.not_eq_false', decide_eq_true_eq] at c4 c5
  obtain ⟨⟨rfl, e2⟩, e3⟩ := c4
  obtain rfl := nil_of e2
  obtain rfl := nil_of e3
  exact .leaf v c1 c3 c5.1 (okV_iff.1 c5.2)
end Go.Proofs.YtbicfjimlpdnkaaGreatDoor

namespace Go.Proofs.YtbicfjimlpdnkaaGreatDoor
open Go.RowKit
theorem below_dN {B : Nat} {a w : World} (h : Below B a w) (n : Nat) : Below B a (w.drewN n) := h.trans ⟨rfl, rfl, rfl, Nat.le_refl _, fun _ _ => rfl⟩
/-- What the reader's calls keep: all but the reader itself. -/
structure RFr (r : Nat) (W w' : World) : Prop where
  os : w'.os = W.os
  tape : w'.tape = W.tape
  output : w'.output = W.output
  size : W.heap.size ≤ w'.heap.size
  keep : ∀ k, k < W.heap.size → k ≠ r → w'.heap[k]? = W.heap[k]?
theorem RFr.refl (r : Nat) (W : World) : RFr r W W := ⟨rfl, rfl, rfl, Nat.le_refl _, fun _ _ _ => rfl⟩
theorem RFr.trans {r : Nat} {W w1 w2 : World} (h : RFr r W w1) (h2 : RFr r w1 w2) : RFr r W w2 :=
  ⟨h2.os.trans h.os, h2.tape.trans h.tape, h2.output.trans h.output, Nat.le_trans h.size h2.size, fun k hk hne => by rw [h2.keep k (Nat.lt_of_lt_of_le hk h.size) hne, h.keep k hk hne]⟩
theorem RFr.of_below {r : Nat} {W w' : World} (hb : Below W.heap.size W w') : RFr r W w' := ⟨hb.os, hb.tape, hb.output, hb.size, fun k hk _ => hb.block k hk⟩
theorem RFr.below {r B : Nat} {W w' : World} (h : RFr r W w') (hB : B ≤ W.heap.size) (hr : B ≤ r) : Below B W w' := ⟨h.os, h.tape, h.output, h.size, fun k hk => h.keep k (by omega) (by omega)⟩
theorem RFr.set {r j : Nat} {W w' : World} {v : Value} (h : RFr r W w') : RFr r W (w'.setCell ⟨r, j, none⟩ v) := ⟨h.os, h.tape, h.output, by simpa using h.size, fun k hk hne => (Below.heap_setCell w' ⟨r, j, none⟩ v k hne).trans (h.keep k hk hne)⟩
theorem RFr.box {r k : Nat} {W w' : World} {o : Obj} (h : RFr r W w') (hk : W.heap[k]? = some o) (hne : k ≠ r) : w'.heap[k]? = some o := (h.keep k (lt_of_block hk) hne).trans hk
theorem two_boxesS (W : World) (c1 c2 : Array Value) (t1 t2 : TypeId) : ∃ w0, Hid ((W.alloc (.cells c1 t1)).alloc (.cells c2 t2) = w0) ∧ Hid (w0.heap[W.heap.size]? = some (.cells c1 t1 (0, 0))) ∧ Hid (w0.heap[W.heap.size + 1]? = some (.cells c2 t2 (0, 0))) ∧ Hid (Below W.heap.size W w0) := by
  refine ⟨_, rfl, blk_alloc (heap_alloc_new W _), ?_, ((Below.refl _ _).alloc (Nat.le_refl _) _).alloc (by simp) _⟩
  have h := heap_alloc_new (W.alloc (.cells c1 t1)) (.cells c2 t2)
  rw [show (W.alloc (.cells c1 t1)).heap.size = W.heap.size + 1 by simp] at h
  exact h
theorem one_box (W : World) (c1 : Array Value) (t1 : TypeId) : ∃ w0, Hid (W.alloc (.cells c1 t1) = w0) ∧ Hid (w0.heap[W.heap.size]? = some (.cells c1 t1 (0, 0))) ∧ Hid (Below W.heap.size W w0) := ⟨_, rfl, heap_alloc_new W _, (Below.refl _ _).alloc (Nat.le_refl _) _⟩
theorem hid_name {α : Type} (x : α) : ∃ y, Hid (x = y) := ⟨x, rfl⟩
theorem results_cS {P : Program} {fn : Func} {p u : Tmp} {ty : TypeId} (h : fn.results = #[.cell p ty, .tmp u]) (tmps : Array Value) (w : World) (g : Nat) (t : TypeId) (cs : Array Value) (fr : Nat × Nat) (d : TypeDesc) (y : Value)
    (hp : tmps.getD p undef = .pointer (some ⟨g, 0, none⟩)) (hy : tmps.getD u undef = y) (hg : w.heap[g]? = some (.cells cs t fr))
    (hu : P.underlying ty = some d) (hd : (match d with | .struct _ | .array _ _ => true | _ => false) = true) (hi : (P.info? ty).map (·.size) = some cs.size) :
    (results fn tmps).run P w = .ok (.tuple #[.agg cs, y]) w := by
  have hp' : tmps[p]?.getD undef = .pointer (some ⟨g, 0, none⟩) := by simpa using hp
  have hy' : tmps[u]?.getD undef = y := by simpa using hy
  simp [results, h, hp', hy', asAddr, Result.andThen, run_loadVar_row w g t ty cs fr d hg hu hd hi]
/-- A right schema: all its parts. -/
theorem right_parts {t : Tr} (h : vldN t = 0) : inB t = true ∧ isRootB t = true ∧ shpT t = true ∧ nmsT t = true ∧ idsT t = true := by
  unfold vldN at h
  split at h
  · omega
  · rename_i h1
    split at h
    · omega
    · rename_i h2
      split at h
      · omega
      · rename_i h3
        simp only [not_or, Bool.not_eq_false] at h1 h2 h3
        exact ⟨h1, h2.1, h2.2, h3.1, h3.2⟩
/-- The three errors that Valid tells, in a world. -/
structure Er3 (W : World) (eb es en : TypeId × Value) : Prop where
  b : W.cell? ⟨0, 0, none⟩ = some (.iface eb.1 eb.2)
  s : W.cell? ⟨1, 0, none⟩ = some (.iface es.1 es.2)
  n : W.cell? ⟨2, 0, none⟩ = some (.iface en.1 en.2)
theorem Er3.keep {W w' : World} {eb es en : TypeId × Value} (h : Er3 W eb es en) (hb : Below W.heap.size W w') : Er3 w' eb es en :=
  ⟨(hb.cell (World.block_lt_of_cell? W _ h.b)).trans h.b, (hb.cell (World.block_lt_of_cell? W _ h.s)).trans h.s, (hb.cell (World.block_lt_of_cell? W _ h.n)).trans h.n⟩
end Go.Proofs.YtbicfjimlpdnkaaGreatDoor

namespace Go.Proofs.YtbicfjimlpdnkaaGreatDoor
open Go.RowKit
theorem chk_leaf (t : Tr) (d : Dt) (hk : t.kind ≠ 0) : chk true t d = leafEr d.no d.l.length d.f.length d.v.k t.kind d.v.n d.v.s.size := by
  rw [chk_eq, if_neg (by simp), if_neg (by simp), if_neg hk, leafEr]
theorem chk_group (t : Tr) (d : Dt) (hk : t.kind = 0) : chk true t d = grpEr d.no d.v d.l.length t.sub d.f := by
  rw [chk_eq, if_neg (by simp), if_neg (by simp), if_pos hk, grpEr]
theorem chk_list (t : Tr) (d : Dt) (hr : t.rep = 3) : chk false t d = lstEr d.no d.v t d.l d.f.length := by
  rw [chk_eq, if_pos ⟨rfl, hr⟩, lstEr]
theorem chk_none (t : Tr) (d : Dt) (hr : t.rep = 2) (hn : d.no = true) : chk false t d = noneEr d.v d.l.length d.f.length := by
  rw [chk_eq, if_neg (by omega), if_pos ⟨rfl, hr, hn⟩, noneEr]
theorem chk_one (t : Tr) (d : Dt) (h3 : t.rep ≠ 3) (h2 : ¬ (t.rep = 2 ∧ d.no = true)) : chk false t d = chk true t d := by
  rw [chk_eq false t d, chk_eq true t d, if_neg (fun h => h3 h.2 : ¬ (false = false ∧ t.rep = 3)), if_neg (fun h => h2 h.2 : ¬ (false = false ∧ t.rep = 2 ∧ d.no = true)), if_neg (by simp : ¬ (true = false ∧ t.rep = 3)), if_neg (by simp : ¬ (true = false ∧ t.rep = 2 ∧ d.no = true))]
theorem Dt.sizeL (d : Dt) (j : Nat) (hj : j < d.l.length) : SizeOf.sizeOf d.l[j] < SizeOf.sizeOf d := by
  cases d with
  | mk no v l f =>
    have h := List.sizeOf_lt_of_mem (List.getElem_mem (l := l) (n := j) hj)
    show SizeOf.sizeOf l[j] < _
    simp only [Dt.mk.sizeOf_spec]
    omega
theorem Dt.sizeF (d : Dt) (j : Nat) (hj : j < d.f.length) : SizeOf.sizeOf d.f[j] < SizeOf.sizeOf d := by
  cases d with
  | mk no v l f =>
    have h := List.sizeOf_lt_of_mem (List.getElem_mem (l := f) (n := j) hj)
    show SizeOf.sizeOf f[j] < _
    simp only [Dt.mk.sizeOf_spec]
    omega
theorem Dt.Sm.lenL {d : Dt} (h : d.Sm) : d.l.length ≤ 1048576 := by cases h with | mk no v l f hs hl hf el ef => exact hl
theorem Dt.Sm.atL {d : Dt} (h : d.Sm) (j : Nat) (hj : j < d.l.length) : d.l[j].Sm := by cases h with | mk no v l f hs hl hf el ef => exact el j hj
theorem Dt.Sm.atF {d : Dt} (h : d.Sm) (j : Nat) (hj : j < d.f.length) : d.f[j].Sm := by cases h with | mk no v l f hs hl hf el ef => exact ef j hj
set_option maxRecDepth 100000 in
set_option maxHeartbeats 1600000 in
theorem checkOne_group (eb es ek : TypeId × Value) (t : Tr) (d : Dt) (hk : t.kind = 0) (r : Nat) (a : Option Addr) (c : Nat) (al : Option Addr) (cl : Nat) (af : Option Addr) (cf : Nat) (W : World)
    (HC : Hid (Calls Tryz.prog 84 #[nodeV t a c, datumV d al cl af cf] ((W.alloc (.cells #[.int .i64 t.id, .string t.nm, .int .i64 t.rep, .int .i64 t.kind, .slice a t.sub.length c] 24)).alloc (.cells #[.bool d.no, .int .i64 d.v.k, .int .i64 d.v.n, .string d.v.s, .slice al d.l.length cl, .slice af d.f.length cf] 58)) fun e w' => e = .returned (erV eb es ek r) ∧ Below ((W.alloc (.cells #[.int .i64 t.id, .string t.nm, .int .i64 t.rep, .int .i64 t.kind, .slice a t.sub.length c] 24)).alloc (.cells #[.bool d.no, .int .i64 d.v.k, .int .i64 d.v.n, .string d.v.s, .slice al d.l.length cl, .slice af d.f.length cf] 58)).heap.size ((W.alloc (.cells #[.int .i64 t.id, .string t.nm, .int .i64 t.rep, .int .i64 t.kind, .slice a t.sub.length c] 24)).alloc (.cells #[.bool d.no, .int .i64 d.v.k, .int .i64 d.v.n, .string d.v.s, .slice al d.l.length cl, .slice af d.f.length cf] 58)) w')) :
    Calls Tryz.prog 49 #[nodeV t a c, datumV d al cl af cf] W fun e w' => e = .returned (erV eb es ek r) ∧ Below W.heap.size W w' := by
  have HB : Hid (Below W.heap.size W ((W.alloc (.cells #[.int .i64 t.id, .string t.nm, .int .i64 t.rep, .int .i64 t.kind, .slice a t.sub.length c] 24)).alloc (.cells #[.bool d.no, .int .i64 d.v.k, .int .i64 d.v.n, .string d.v.s, .slice al d.l.length cl, .slice af d.f.length cf] 58))) := ((Below.refl _ _).alloc (Nat.le_refl _) _).alloc (by simp) _
  have qk : (t.kind == 0) = true := by simp [hk]
  clear hk
  unfold nodeV datumV
  go_enter Tryz.func49, Tryz.ntmps49
  go_wp2_with fail
  refine Calls.mono HC.out ?_
  rintro e w1 ⟨rfl, hb1⟩
  have HB1 : Hid (Below W.heap.size W w1) := HB.out.trans (hb1.mono HB.out.size)
  clear hb1
  go_wp2
  go_ret
  exact ⟨rfl, HB1.out⟩
set_option maxRecDepth 100000 in
set_option maxHeartbeats 1600000 in
theorem check_of (eb es ek : TypeId × Value) (t : Tr) (d : Dt)
    (H1 : Hid (ChkP eb es ek 49 true t d))
    (HL : Hid (∀ (P Q : Nat → Prop) (a : Option Addr) (c : Nat) (al : Option Addr) (cl : Nat) (af : Option Addr) (cf : Nat) (W : World), EC W eb es ek → LiesN W P a t.sub → LiesD W Q al d.l → Calls Tryz.prog 47 #[nodeV t a c, datumV d al cl af cf] W fun e w' => e = .returned (erV eb es ek (lstEr d.no d.v t d.l d.f.length)) ∧ Below W.heap.size W w')) :
    ChkP eb es ek 31 false t d := by
  intro P Q a c al cl af cf W he hl hd1 hd2
  have hb : Below W.heap.size W ((W.alloc (.cells #[.int .i64 t.id, .string t.nm, .int .i64 t.rep, .int .i64 t.kind, .slice a t.sub.length c] 24)).alloc (.cells #[.bool d.no, .int .i64 d.v.k, .int .i64 d.v.n, .string d.v.s, .slice al d.l.length cl, .slice af d.f.length cf] 58)) := ((Below.refl _ _).alloc (Nat.le_refl _) _).alloc (by simp) _
  have HB : Hid (Below W.heap.size W ((W.alloc (.cells #[.int .i64 t.id, .string t.nm, .int .i64 t.rep, .int .i64 t.kind, .slice a t.sub.length c] 24)).alloc (.cells #[.bool d.no, .int .i64 d.v.k, .int .i64 d.v.n, .string d.v.s, .slice al d.l.length cl, .slice af d.f.length cf] 58))) := hb
  have HO : Hid _ := H1.out P Q a c al cl af cf ((W.alloc (.cells #[.int .i64 t.id, .string t.nm, .int .i64 t.rep, .int .i64 t.kind, .slice a t.sub.length c] 24)).alloc (.cells #[.bool d.no, .int .i64 d.v.k, .int .i64 d.v.n, .string d.v.s, .slice al d.l.length cl, .slice af d.f.length cf] 58)) (he.keep hb) (hl.keep hb) (hd1.keep hb) (hd2.keep hb)
  have HLi : Hid _ := HL.out P Q a c al cl af cf ((W.alloc (.cells #[.int .i64 t.id, .string t.nm, .int .i64 t.rep, .int .i64 t.kind, .slice a t.sub.length c] 24)).alloc (.cells #[.bool d.no, .int .i64 d.v.k, .int .i64 d.v.n, .string d.v.s, .slice al d.l.length cl, .slice af d.f.length cf] 58)) (he.keep hb) (hl.keep hb) (hd1.keep hb)
  have HNo : Hid _ := checkNone_any eb es ek d.no d.v.k d.v.n d.v.s al d.l.length cl af d.f.length cf ((W.alloc (.cells #[.int .i64 t.id, .string t.nm, .int .i64 t.rep, .int .i64 t.kind, .slice a t.sub.length c] 24)).alloc (.cells #[.bool d.no, .int .i64 d.v.k, .int .i64 d.v.n, .string d.v.s, .slice al d.l.length cl, .slice af d.f.length cf] 58)) (he.keep hb)
  clear hl hd1 hd2 hb he H1 HL
  unfold nodeV datumV
  by_cases h3 : t.rep = 3
  · have HE : Hid _ := chk_list t d h3
    have q3 : (t.rep == 3) = true := by simp [h3]
    clear h3
    go_enter Tryz.func31, Tryz.ntmps31
    go_wp2_with fail
    refine Calls.mono HLi.out ?_
    rintro e w1 ⟨rfl, hb1⟩
    have HB1 : Hid (Below W.heap.size W w1) := HB.out.trans (hb1.mono HB.out.size)
    clear hb1
    go_wp2
    go_ret
    exact ⟨by rw [HE.out]; rfl, HB1.out⟩
  · have q3 : (t.rep == 3) = false := by simp [h3]
    by_cases h2 : t.rep = 2
    · have q2 : (t.rep == 2) = true := by simp [h2]
      obtain ⟨bn, hbn⟩ : ∃ bn, d.no = bn := ⟨_, rfl⟩
      cases bn with
      | true =>
        have HE : Hid _ := chk_none t d h2 hbn
        clear h2 h3
        rw [hbn] at HNo HB
        go_enter Tryz.func31, Tryz.ntmps31
        go_wp2_with fail
        refine Calls.mono HNo.out ?_
        rintro e w1 ⟨rfl, hb1⟩
        have HB1 : Hid (Below W.heap.size W w1) := HB.out.trans (hb1.mono HB.out.size)
        clear hb1
        go_wp2
        go_ret
        exact ⟨by rw [HE.out]; rfl, HB1.out⟩
      | false =>
        have HE : Hid _ := chk_one t d h3 (fun h => by rw [hbn] at h; simp at h)
        clear h2 h3
        unfold nodeV datumV at HO
        rw [hbn] at HO HB
        go_enter Tryz.func31, Tryz.ntmps31
        go_wp2_with fail
        refine Calls.mono HO.out ?_
        rintro e w1 ⟨rfl, hb1⟩
        have HB1 : Hid (Below W.heap.size W w1) := HB.out.trans (hb1.mono HB.out.size)
        clear hb1
        go_wp2
        go_ret
        exact ⟨by rw [HE.out]; rfl, HB1.out⟩
    · have q2 : (t.rep == 2) = false := by simp [h2]
      have HE : Hid _ := chk_one t d h3 (fun h => h2 h.1)
      clear h2 h3
      go_enter Tryz.func31, Tryz.ntmps31
      go_wp2_with fail
      refine Calls.mono HO.out ?_
      rintro e w1 ⟨rfl, hb1⟩
      have HB1 : Hid (Below W.heap.size W w1) := HB.out.trans (hb1.mono HB.out.size)
      clear hb1
      go_wp2
      go_ret
      exact ⟨by rw [HE.out]; rfl, HB1.out⟩
theorem check_all (eb es ek : TypeId × Value) : ∀ (n : Nat) (d : Dt), SizeOf.sizeOf d < n → d.Sm → ∀ t : Tr, t.Sm → ChkP eb es ek 49 true t d ∧ ChkP eb es ek 31 false t d
  | 0, d, h => absurd h (Nat.not_lt_zero _)
  | n + 1, d, hsz => fun hd t ht => by
    have h1 : ChkP eb es ek 49 true t d := by
      intro P Q a c al cl af cf W he hl hd1 hd2
      by_cases hk : t.kind = 0
      · rw [chk_group t d hk]
        refine checkOne_group eb es ek t d hk _ a c al cl af cf W ?_
        have hb : Below W.heap.size W ((W.alloc (.cells #[.int .i64 t.id, .string t.nm, .int .i64 t.rep, .int .i64 t.kind, .slice a t.sub.length c] 24)).alloc (.cells #[.bool d.no, .int .i64 d.v.k, .int .i64 d.v.n, .string d.v.s, .slice al d.l.length cl, .slice af d.f.length cf] 58)) := ((Below.refl _ _).alloc (Nat.le_refl _) _).alloc (by simp) _
        exact checkGroup_of eb es ek t a c d.no d.v.k d.v.n d.v.s al d.l.length cl af cf d.f ht.len P Q _ (he.keep hb) (hl.keep hb) (hd2.keep hb) (fun j hj hj' => (check_all eb es ek n d.f[j] (by have := d.sizeF j hj; omega) (hd.atF j hj) t.sub[j] (ht.at_ j hj')).2)
      · rw [chk_leaf t d hk]
        exact checkLeaf_any eb es ek t.id t.rep t.kind t.nm a t.sub.length c d.no d.v.k d.v.n d.v.s al d.l.length cl af d.f.length cf W he hk
    exact ⟨h1, check_of eb es ek t d h1 (fun P Q a c al cl af cf W he hl hd1 => checkList_of eb es ek t a c d.no d.v.k d.v.n d.v.s al cl d.l af d.f.length cf hd.lenL P Q W he hl hd1 (fun j hj => (check_all eb es ek n d.l[j] (by have := d.sizeL j hj; omega) (hd.atL j hj) t ht).1))⟩
set_option maxRecDepth 100000 in
set_option maxHeartbeats 1600000 in
/-- data.Check of a right schema. -/
theorem checkD_right (eb es ek en : TypeId × Value) (t : Tr) (d : Dt) (n : Nat) (hd : t.Dp n) (hn : n ≤ 1100000) (hs : t.Sm) (hds : d.Sm) (hv : vldN t = 0) (P Q : Nat → Prop) (a : Option Addr) (c : Nat) (hcap : t.sub.length ≤ c) (al : Option Addr) (cl : Nat) (af : Option Addr) (cf : Nat) (W : World) (he : EC W eb es ek) (hen : W.cell? ⟨2, 0, none⟩ = some (.iface en.1 en.2)) (hl : LiesN W P a t.sub) (hd1 : LiesD W Q al d.l) (hd2 : LiesD W Q af d.f) :
    Calls Tryz.prog 17 #[nodeV t a c, datumV d al cl af cf] W fun e w' => e = .returned (erV eb es ek (chk false t d)) ∧ Below W.heap.size W w' := by
  have hb : Below W.heap.size W ((W.alloc (.cells #[.int .i64 t.id, .string t.nm, .int .i64 t.rep, .int .i64 t.kind, .slice a t.sub.length c] 24)).alloc (.cells #[.bool d.no, .int .i64 d.v.k, .int .i64 d.v.n, .string d.v.s, .slice al d.l.length cl, .slice af d.f.length cf] 58)) := ((Below.refl _ _).alloc (Nat.le_refl _) _).alloc (by simp) _
  have HB : Hid (Below W.heap.size W ((W.alloc (.cells #[.int .i64 t.id, .string t.nm, .int .i64 t.rep, .int .i64 t.kind, .slice a t.sub.length c] 24)).alloc (.cells #[.bool d.no, .int .i64 d.v.k, .int .i64 d.v.n, .string d.v.s, .slice al d.l.length cl, .slice af d.f.length cf] 58))) := hb
  have HX : Hid (((W.alloc (.cells #[.int .i64 t.id, .string t.nm, .int .i64 t.rep, .int .i64 t.kind, .slice a t.sub.length c] 24)).alloc (.cells #[.bool d.no, .int .i64 d.v.k, .int .i64 d.v.n, .string d.v.s, .slice al d.l.length cl, .slice af d.f.length cf] 58)).heap[W.heap.size]? = some (.cells #[.int .i64 t.id, .string t.nm, .int .i64 t.rep, .int .i64 t.kind, .slice a t.sub.length c] 24 (0, 0))) := blk_alloc (heap_alloc_new W _)
  have HY : Hid (((W.alloc (.cells #[.int .i64 t.id, .string t.nm, .int .i64 t.rep, .int .i64 t.kind, .slice a t.sub.length c] 24)).alloc (.cells #[.bool d.no, .int .i64 d.v.k, .int .i64 d.v.n, .string d.v.s, .slice al d.l.length cl, .slice af d.f.length cf] 58)).heap[W.heap.size + 1]? = some (.cells #[.bool d.no, .int .i64 d.v.k, .int .i64 d.v.n, .string d.v.s, .slice al d.l.length cl, .slice af d.f.length cf] 58 (0, 0))) := (by
    have h := heap_alloc_new (W.alloc (.cells #[.int .i64 t.id, .string t.nm, .int .i64 t.rep, .int .i64 t.kind, .slice a t.sub.length c] 24)) (.cells #[.bool d.no, .int .i64 d.v.k, .int .i64 d.v.n, .string d.v.s, .slice al d.l.length cl, .slice af d.f.length cf] 58)
    rwa [show (W.alloc (.cells #[.int .i64 t.id, .string t.nm, .int .i64 t.rep, .int .i64 t.kind, .slice a t.sub.length c] 24)).heap.size = W.heap.size + 1 by simp] at h)
  have hvv : vldV (.iface eb.1 eb.2) (.iface es.1 es.2) (.iface en.1 en.2) t = .nilIface := vldV_nil hv
  have HV := valid_any t n hd hn hs a c P ((W.alloc (.cells #[.int .i64 t.id, .string t.nm, .int .i64 t.rep, .int .i64 t.kind, .slice a t.sub.length c] 24)).alloc (.cells #[.bool d.no, .int .i64 d.v.k, .int .i64 d.v.n, .string d.v.s, .slice al d.l.length cl, .slice af d.f.length cf] 58)) (hl.keep hb) hcap eb es en (he.keep hb).b (he.keep hb).s ((hb.cell (World.block_lt_of_cell? W _ hen)).trans hen)
  rw [hvv] at HV
  have HV : Hid _ := HV
  have HCk : Hid _ := (check_all eb es ek _ d (Nat.lt_succ_self _) hds t hs).2
  have HEr : Hid (EC W eb es ek) := he
  have HL : Hid (LiesN W P a t.sub) := hl
  have HD1 : Hid (LiesD W Q al d.l) := hd1
  have HD2 : Hid (LiesD W Q af d.f) := hd2
  clear hb he hen hl hd1 hd2 hd hs hds hv hvv
  unfold nodeV datumV
  go_enter Tryz.func17, Tryz.ntmps17
  go_wp2_with fail
  refine Calls.mono HV.out ?_
  rintro e w1 ⟨rfl, hb1⟩
  have HB1 : Hid (Below W.heap.size W w1) := HB.out.trans (hb1.mono HB.out.size)
  have HX1 : Hid (w1.heap[W.heap.size]? = some (.cells #[.int .i64 t.id, .string t.nm, .int .i64 t.rep, .int .i64 t.kind, .slice a t.sub.length c] 24 (0, 0))) := blk_keep hb1 HX.out
  have HY1 : Hid (w1.heap[W.heap.size + 1]? = some (.cells #[.bool d.no, .int .i64 d.v.k, .int .i64 d.v.n, .string d.v.s, .slice al d.l.length cl, .slice af d.f.length cf] 58 (0, 0))) := blk_keep hb1 HY.out
  clear hb1 HV
  obtain ⟨d0, d1, d2, d3, d4, d5⟩ := row_six HY1.out
  obtain ⟨⟨p0, p1, p2, p3, p4⟩, _⟩ := row_five HX1.out
  have HC : Hid _ := HCk.out P Q a c al cl af cf w1 (HEr.out.keep HB1.out) (HL.out.keep HB1.out) (HD1.out.keep HB1.out) (HD2.out.keep HB1.out)
  go_wp2_with fail
  refine Calls.mono HC.out ?_
  rintro e w2 ⟨rfl, hb2⟩
  have HB2 : Hid (Below W.heap.size W w2) := HB1.out.trans (hb2.mono HB1.out.size)
  clear hb2 d0 d1 d2 d3 d4 d5 p0 p1 p2 p3 p4
  go_wp2
  go_ret
  exact ⟨rfl, HB2.out⟩
end Go.Proofs.YtbicfjimlpdnkaaGreatDoor

namespace Go.Proofs.YtbicfjimlpdnkaaGreatDoor
open Go.RowKit
section
variable {α : Type} (ok : α → Bool) (bad : α → α → Bool)
/-- Each element is right, and goes with all ahead of it. -/
def chq (ahead : List α) : List α → Bool
  | [] => true
  | p :: ps => ok p && !(ahead.any fun q => bad q p) && chq (ahead ++ [p]) ps
theorem chq_iff : ∀ (l ahead : List α), chq ok bad ahead l = true ↔ (∀ p ∈ l, ok p = true) ∧ l.Pairwise (fun a b => bad a b = false) ∧ ∀ a ∈ ahead, ∀ b ∈ l, bad a b = false
  | [], ahead => by simp [chq]
  | p :: ps, ahead => by
    rw [chq, Bool.and_eq_true, Bool.and_eq_true, chq_iff ps, Bool.not_eq_true', List.any_eq_false, List.pairwise_cons]
    constructor
    · rintro ⟨⟨h1, h2⟩, h3, h4, h5⟩
      refine ⟨fun x hx => ?_, ⟨fun b hb => h5 p (by simp) b hb, h4⟩, fun a ha b hb => ?_⟩
      · rcases List.mem_cons.1 hx with rfl | hx
        · exact h1
        · exact h3 x hx
      · rcases List.mem_cons.1 hb with rfl | hb
        · simpa using h2 a ha
        · exact h5 a (by simp [ha]) b hb
    · rintro ⟨h1, ⟨h2, h3⟩, h4⟩
      refine ⟨⟨h1 p (by simp), fun a ha => by simp [h4 a ha p (by simp)]⟩, fun x hx => h1 x (by simp [hx]), h3, fun a ha b hb => ?_⟩
      rcases List.mem_append.1 ha with ha | ha
      · exact h4 a ha b (by simp [hb])
      · rw [List.mem_singleton.1 ha]; exact h2 b hb
end
mutual
/-- The nodes of a tree, in order. -/
def ndT : Tr → List Tr
  | .node id nm rep kind sub => .node id nm rep kind sub :: ndL sub
def ndL : List Tr → List Tr
  | [] => []
  | t :: ts => ndT t ++ ndL ts
end
theorem ndT_eq (t : Tr) : ndT t = t :: ndL t.sub := by
  cases t with
  | node id nm rep kind sub => rw [ndT]; rfl
mutual
/-- The flat list, whole. -/
def preT (base : Nat) : Tr → Nat → Int → List Pc
  | .node id nm rep kind sub, d, ar => ⟨.node id nm rep kind sub, d, ar⟩ :: preL (base + 1) sub (d + 1) base
def preL (base : Nat) : List Tr → Nat → Int → List Pc
  | [], _, _ => []
  | t :: ts, d, ar => preT base t d ar ++ preL (base + t.cnt) ts d ar
end
mutual
theorem preT_map : ∀ (t : Tr) (base d : Nat) (ar : Int), (preT base t d ar).map Pc.t = ndT t
  | .node id nm rep kind sub, base, d, ar => by rw [preT, ndT, List.map_cons, preL_map sub]
theorem preL_map : ∀ (ts : List Tr) (base d : Nat) (ar : Int), (preL base ts d ar).map Pc.t = ndL ts
  | [], base, d, ar => by rw [preL, ndL]; rfl
  | t :: ts, base, d, ar => by rw [preL, ndL, List.map_append, preT_map t, preL_map ts]
end
mutual
theorem dpB : ∀ (t : Tr) (m : Nat) (path : List Tr), (wkT stB m path t).1 = true → (wkT stB m path t).2 = m + t.cnt ∧ m + t.cnt ≤ 40 ∧ t.Dp (6 - path.length)
  | .node id nm rep kind sub, m, path => by
    rw [wkT, Tr.cnt]
    intro h
    by_cases hs : (stB m path (.node id nm rep kind sub)).1 = true
    · rw [if_pos hs] at h ⊢
      have h1 : m + 1 ≤ 40 ∧ path.length < 6 := by simpa [stB] using hs
      have h2 := dpBL sub (stB m path (.node id nm rep kind sub)).2 (path ++ [.node id nm rep kind sub]) h
      have e : (stB m path (.node id nm rep kind sub)).2 = m + 1 := rfl
      rw [e] at h2 ⊢
      refine ⟨by omega, by omega, ?_⟩
      have hd : 6 - path.length = (6 - (path ++ [Tr.node id nm rep kind sub]).length) + 1 := by simp; omega
      rw [hd]
      exact .mk _ id nm rep kind sub h2.2.2
    · rw [if_neg hs] at h
      exact absurd h hs
theorem dpBL : ∀ (ts : List Tr) (m : Nat) (path : List Tr), (wkL stB m path ts).1 = true → (wkL stB m path ts).2 = m + cntL ts ∧ (m ≤ 40 → m + cntL ts ≤ 40) ∧ ∀ j (h : j < ts.length), ts[j].Dp (6 - path.length)
  | [], m, path => by
    rw [wkL, cntL]
    exact fun _ => ⟨by simp, fun h => h, fun j h => absurd h (by simp)⟩
  | t :: ts, m, path => by
    rw [wkL, cntL]
    intro h
    by_cases hs : (wkT stB m path t).1 = true
    · rw [if_pos hs] at h ⊢
      have h1 := dpB t m path hs
      have h2 := dpBL ts _ path h
      rw [h1.1] at h2 ⊢
      refine ⟨by omega, fun _ => by have := h2.2.1 h1.2.1; omega, fun j hj => ?_⟩
      cases j with
      | zero => exact h1.2.2
      | succ j => exact h2.2.2 j (by simpa using hj)
    · rw [if_neg hs] at h
      exact absurd h hs
end
section
variable (f : Tr → Bool)
mutual
theorem wk_all : ∀ (t : Tr) (path : List Tr), (wkT (fun (_ : Unit) (_ : List Tr) x => (f x, ())) () path t).1 = (ndT t).all f
  | .node id nm rep kind sub, path => by
    rw [wkT, ndT, List.all_cons]
    cases h : f (.node id nm rep kind sub) with
    | true => simp [wkL_all sub]
    | false => simp
theorem wkL_all : ∀ (ts : List Tr) (path : List Tr), (wkL (fun (_ : Unit) (_ : List Tr) x => (f x, ())) () path ts).1 = (ndL ts).all f
  | [], path => by rw [wkL, ndL]; rfl
  | t :: ts, path => by
    rw [wkL, ndL, List.all_append, ← wk_all t path, ← wkL_all ts path]
    cases h : (wkT (fun (_ : Unit) (_ : List Tr) x => (f x, ())) () path t).1 with
    | true => simp
    | false => simp [h]
end
end
theorem shp_all (t : Tr) : shpT t = (shpOk t && (ndL t.sub).all shpOk) := by
  have h := wk_all shpOk t []
  rw [ndT_eq, List.all_cons] at h
  exact h
/-- Numbers. -/
def idOkP (p : Pc) : Bool := decide (1 ≤ p.t.id ∧ p.t.id ≤ 1000)
def idBadP (a b : Pc) : Bool := decide (a.t.id = b.t.id)
def idOkT (x : Tr) : Bool := decide (1 ≤ x.id ∧ x.id ≤ 1000)
def idEqT (a b : Tr) : Bool := decide (a.id = b.id)
mutual
theorem idW : ∀ (t : Tr) (ahead path : List Tr), 0 < path.length → (wkT stI (ahead.map Tr.id) path t).1 = chq idOkT idEqT ahead (ndT t) ∧ ((wkT stI (ahead.map Tr.id) path t).1 = true → (wkT stI (ahead.map Tr.id) path t).2 = (ahead ++ ndT t).map Tr.id)
  | .node id nm rep kind sub, ahead, path, hp => by
    have hs : stI (ahead.map Tr.id) path (.node id nm rep kind sub) = (idOkT (.node id nm rep kind sub) && !(ahead.any fun q => idEqT q (.node id nm rep kind sub)), (ahead ++ [Tr.node id nm rep kind sub]).map Tr.id) := by
      rw [stI, if_neg (by omega)]
      have e : (ahead.map Tr.id).contains (Tr.node id nm rep kind sub).id = ahead.any fun q => idEqT q (.node id nm rep kind sub) := by
        rw [Bool.eq_iff_iff, List.contains_iff_mem, List.any_eq_true, List.mem_map]
        simp [idEqT]
      rw [e, Bool.and_comm]
      simp [idOkT]
    have ih := idWL sub (ahead ++ [.node id nm rep kind sub]) (path ++ [.node id nm rep kind sub]) (by simp)
    rw [wkT, ndT, chq, hs]
    cases h : (idOkT (.node id nm rep kind sub) && !(ahead.any fun q => idEqT q (.node id nm rep kind sub))) with
    | true =>
      simp only [if_true, Bool.true_and]
      exact ⟨ih.1, fun h => by rw [ih.2 h]; simp⟩
    | false =>
      simp
theorem idWL : ∀ (ts ahead path : List Tr), 0 < path.length → (wkL stI (ahead.map Tr.id) path ts).1 = chq idOkT idEqT ahead (ndL ts) ∧ ((wkL stI (ahead.map Tr.id) path ts).1 = true → (wkL stI (ahead.map Tr.id) path ts).2 = (ahead ++ ndL ts).map Tr.id)
  | [], ahead, path, hp => by rw [wkL, ndL, chq]; simp
  | t :: ts, ahead, path, hp => by
    have h1 := idW t ahead path hp
    have happ : ∀ (l m ah : List Tr), chq idOkT idEqT ah (l ++ m) = (chq idOkT idEqT ah l && chq idOkT idEqT (ah ++ l) m) := by
      intro l
      induction l with
      | nil => intro m ah; simp [chq]
      | cons x l ihl =>
        intro m ah
        rw [List.cons_append, chq, chq, ihl m (ah ++ [x])]
        simp [Bool.and_assoc]
    rw [wkL, ndL, happ, ← h1.1]
    cases h : (wkT stI (ahead.map Tr.id) path t).1 with
    | true =>
      have h2 := idWL ts (ahead ++ ndT t) path hp
      rw [if_pos rfl, h1.2 h, Bool.true_and]
      exact ⟨h2.1, fun h => by rw [h2.2 h]; simp⟩
    | false =>
      rw [if_neg (by simp)]
      simp [h]
end
theorem ids_fl (t : Tr) : idsT t = chq idOkP idBadP [] (preL 1 t.sub 2 0) := by
  have h1 : idsT t = chq idOkT idEqT [] (ndL t.sub) := by
    have h := (idWL t.sub [] ([] ++ [t]) (by simp)).1
    unfold idsT
    rw [wkT_eq]
    have e : stI [] [] t = (true, []) := by simp [stI]
    rw [e, if_pos rfl]
    exact h
  rw [h1, ← preL_map t.sub 1 2 0]
  have hm : ∀ (l ahead : List Pc), chq idOkT idEqT (ahead.map Pc.t) (l.map Pc.t) = chq idOkP idBadP ahead l := by
    intro l
    induction l with
    | nil => intro ahead; rfl
    | cons p l ih =>
      intro ahead
      rw [List.map_cons, chq, chq, ← ih (ahead ++ [p])]
      simp [idOkT, idOkP, idEqT, idBadP, List.any_map, Function.comp_def]
  exact hm _ []
end Go.Proofs.YtbicfjimlpdnkaaGreatDoor

namespace Go.Proofs.YtbicfjimlpdnkaaGreatDoor
open Go.RowKit
theorem ndL_mem : ∀ (ts : List Tr) (x : Tr), x ∈ ndL ts ↔ ∃ t ∈ ts, x ∈ ndT t
  | [], x => by simp [ndL]
  | t :: ts, x => by
    rw [ndL, List.mem_append, ndL_mem ts x]
    simp
theorem nd_sub {t c x : Tr} (hc : c ∈ t.sub) (hx : x ∈ ndT c) : x ∈ ndT t := by
  rw [ndT_eq]
  exact List.mem_cons_of_mem _ ((ndL_mem _ _).2 ⟨c, hc, hx⟩)
/-- No number twice. -/
def IdU (t : Tr) : Prop := ((ndT t).map Tr.id).Nodup
theorem IdU.sub {t c : Tr} (h : IdU t) (hc : c ∈ t.sub) : IdU c := by
  unfold IdU at h ⊢
  rw [ndT_eq, List.map_cons, List.nodup_cons] at h
  have : ∀ (ts : List Tr), c ∈ ts → ((ndL ts).map Tr.id).Nodup → ((ndT c).map Tr.id).Nodup := fun ts => by
    induction ts with
    | nil => simp
    | cons x xs ih =>
      intro hm hn
      rw [ndL, List.map_append, List.nodup_append] at hn
      rcases List.mem_cons.1 hm with rfl | hm
      · exact hn.1
      · exact ih hm hn.2.1
  exact this _ hc h.2
/-- Two nodes of a list that have a node in common are one. -/
theorem IdU.apart {t c c' x : Tr} (h : IdU t) (hc : c ∈ t.sub) (hc' : c' ∈ t.sub) (hx : x ∈ ndT c) (hx' : x ∈ ndT c') : c = c' := by
  unfold IdU at h
  rw [ndT_eq, List.map_cons, List.nodup_cons] at h
  have : ∀ (ts : List Tr), c ∈ ts → c' ∈ ts → ((ndL ts).map Tr.id).Nodup → c = c' := fun ts => by
    induction ts with
    | nil => simp
    | cons y ys ih =>
      intro hm hm' hn
      rw [ndL, List.map_append, List.nodup_append] at hn
      rcases List.mem_cons.1 hm with e1 | hm1
      · rcases List.mem_cons.1 hm' with e2 | hm2
        · rw [e1, e2]
        · rw [e1] at hx
          exact absurd rfl (hn.2.2 x.id (List.mem_map_of_mem hx) x.id (List.mem_map_of_mem ((ndL_mem _ _).2 ⟨c', hm2, hx'⟩)))
      · rcases List.mem_cons.1 hm' with e2 | hm2
        · rw [e2] at hx'
          exact absurd rfl (hn.2.2 x.id (List.mem_map_of_mem hx') x.id (List.mem_map_of_mem ((ndL_mem _ _).2 ⟨c, hm1, hx⟩)))
        · exact ih hm1 hm2 hn.2.1
  exact this _ hc hc' h.2
end Go.Proofs.YtbicfjimlpdnkaaGreatDoor

namespace Go.Proofs.YtbicfjimlpdnkaaGreatDoor
open Go.RowKit
theorem right_idU {t : Tr} (hr : isRootB t = true) (hI : idsT t = true) : IdU t := by
  have hid : t.id = 0 := (of_decide_eq_true hr).1
  rw [ids_fl, chq_iff] at hI
  obtain ⟨hok, hpw, _⟩ := hI
  have hm := preL_map t.sub 1 2 0
  unfold IdU
  rw [ndT_eq, List.map_cons, List.nodup_cons, ← hm]
  constructor
  · intro h
    obtain ⟨x, hx, e⟩ := List.mem_map.1 h
    obtain ⟨p, hp, rfl⟩ := List.mem_map.1 hx
    have := hok p hp
    rw [idOkP, decide_eq_true_iff] at this
    omega
  · rw [List.map_map, List.nodup_iff_pairwise_ne, List.pairwise_map]
    refine hpw.imp ?_
    intro a b h
    rw [idBadP, decide_eq_false_iff_not] at h
    exact h
end Go.Proofs.YtbicfjimlpdnkaaGreatDoor
