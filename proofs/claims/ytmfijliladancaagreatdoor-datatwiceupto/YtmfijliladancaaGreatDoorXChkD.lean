/-
  data.Check: exact: which error, or none.
-/
import Derived.Test.YtmfijliladancaaGreatDoorXWeightD
import Derived.Test.YtmfijliladancaaGreatDoorXBValid
namespace Go.Proofs.YtmfijliladancaaGreatDoor
open Go.RowKit
def hasV (v : Vl) : Bool := !(decide (v.k = 0 ∧ v.n = 0 ∧ v.s.toList = []))
set_option maxRecDepth 100000 in
set_option maxHeartbeats 1600000 in
theorem hasValue_any (no : Bool) (k n : Int) (s : ByteArray) (al af : Option Addr) (nl cl nf cf : Nat) (W : World) :
    Calls Tryz.prog 55 #[.agg #[.bool no, .int .i64 k, .int .i64 n, .string s, .slice al nl cl, .slice af nf cf]] W fun e w' => e = .returned (.bool (hasV ⟨k, n, s⟩)) ∧ Below W.heap.size W w' := by
  have HB : Hid (Below W.heap.size W (W.alloc (.cells #[.bool no, .int .i64 k, .int .i64 n, .string s, .slice al nl cl, .slice af nf cf] 29))) := (Below.refl _ _).alloc (Nat.le_refl _) _
  go_enter Tryz.func55, Tryz.ntmps55
  go_wp2
  all_goals go_ret
  all_goals exact ⟨by simp [hasV, *], by first | exact HB.out | simpa [*] using HB.out⟩
set_option maxRecDepth 100000 in
set_option maxHeartbeats 1600000 in
theorem hasElements_any (no : Bool) (k n : Int) (s : ByteArray) (al af : Option Addr) (nl cl nf cf : Nat) (W : World) :
    Calls Tryz.prog 57 #[.agg #[.bool no, .int .i64 k, .int .i64 n, .string s, .slice al nl cl, .slice af nf cf]] W fun e w' => e = .returned (.bool (decide (0 < nl))) ∧ Below W.heap.size W w' := by
  have HB : Hid (Below W.heap.size W (W.alloc (.cells #[.bool no, .int .i64 k, .int .i64 n, .string s, .slice al nl cl, .slice af nf cf] 29))) := (Below.refl _ _).alloc (Nat.le_refl _) _
  go_enter Tryz.func57, Tryz.ntmps57
  go_wp2
  go_ret
  exact ⟨by first | rfl | simp, HB.out⟩
set_option maxRecDepth 100000 in
set_option maxHeartbeats 1600000 in
theorem hasFields_any (no : Bool) (k n : Int) (s : ByteArray) (al af : Option Addr) (nl cl nf cf : Nat) (W : World) :
    Calls Tryz.prog 56 #[.agg #[.bool no, .int .i64 k, .int .i64 n, .string s, .slice al nl cl, .slice af nf cf]] W fun e w' => e = .returned (.bool (decide (0 < nf))) ∧ Below W.heap.size W w' := by
  have HB : Hid (Below W.heap.size W (W.alloc (.cells #[.bool no, .int .i64 k, .int .i64 n, .string s, .slice al nl cl, .slice af nf cf] 29))) := (Below.refl _ _).alloc (Nat.le_refl _) _
  go_enter Tryz.func56, Tryz.ntmps56
  go_wp2
  go_ret
  exact ⟨by first | rfl | simp, HB.out⟩
mutual
/-- A datum's error for a node: 0: none; 1: bound, 2: shape, 3: kind. -/
def chk (one : Bool) (t : Tr) : Dt → Nat
  | .mk no v l f =>
    if one = false ∧ t.rep = 3 then (if 40 < l.length then 1 else if (no || hasV v || decide (0 < f.length)) = true then 2 else chkL t l)
    else if one = false ∧ t.rep = 2 ∧ no = true then (if (hasV v || decide (0 < l.length) || decide (0 < f.length)) = true then 2 else 0)
    else if t.kind = 0 then (if (no || hasV v || decide (0 < l.length) || !decide (f.length = t.sub.length)) = true then 2 else chkF t.sub f)
    else if (no || decide (0 < l.length) || decide (0 < f.length)) = true then 2 else if (!decide (v.k = t.kind) || !okV v.k v.k v.n v.s.size) = true then 3 else 0
def chkL (t : Tr) : List Dt → Nat
  | [] => 0
  | d :: ds => if chk true t d = 0 then chkL t ds else chk true t d
def chkF : List Tr → List Dt → Nat
  | _, [] => 0
  | [], _ :: _ => 0
  | t :: ts, d :: ds => if chk false t d = 0 then chkF ts ds else chk false t d
end
theorem chk_eq (one : Bool) (t : Tr) (d : Dt) : chk one t d = if one = false ∧ t.rep = 3 then (if 40 < d.l.length then 1 else if (d.no || hasV d.v || decide (0 < d.f.length)) = true then 2 else chkL t d.l)
    else if one = false ∧ t.rep = 2 ∧ d.no = true then (if (hasV d.v || decide (0 < d.l.length) || decide (0 < d.f.length)) = true then 2 else 0)
    else if t.kind = 0 then (if (d.no || hasV d.v || decide (0 < d.l.length) || !decide (d.f.length = t.sub.length)) = true then 2 else chkF t.sub d.f)
    else if (d.no || decide (0 < d.l.length) || decide (0 < d.f.length)) = true then 2 else if (!decide (d.v.k = t.kind) || !okV d.v.k d.v.k d.v.n d.v.s.size) = true then 3 else 0 := by
  cases d with
  | mk no v l f => rw [chk]; rfl
theorem chkL_drop (t : Tr) (ds : List Dt) (i : Nat) (h : i < ds.length) : chkL t (ds.drop i) = if chk true t ds[i] = 0 then chkL t (ds.drop (i + 1)) else chk true t ds[i] := by
  rw [List.drop_eq_getElem_cons h, chkL]
theorem chkF_drop (ts : List Tr) (ds : List Dt) (i : Nat) (h : i < ds.length) (h' : i < ts.length) : chkF (ts.drop i) (ds.drop i) = if chk false ts[i] ds[i] = 0 then chkF (ts.drop (i + 1)) (ds.drop (i + 1)) else chk false ts[i] ds[i] := by
  rw [List.drop_eq_getElem_cons h, List.drop_eq_getElem_cons h', chkF]
/-- The three errors that a record may have. -/
structure EC (W : World) (eb es ek : TypeId × Value) : Prop where
  b : W.cell? ⟨0, 0, none⟩ = some (.iface eb.1 eb.2)
  s : W.cell? ⟨2, 0, none⟩ = some (.iface es.1 es.2)
  k : W.cell? ⟨4, 0, none⟩ = some (.iface ek.1 ek.2)
theorem EC.keep {W w' : World} {eb es ek : TypeId × Value} (h : EC W eb es ek) (hb : Below W.heap.size W w') : EC w' eb es ek :=
  ⟨(hb.cell (World.block_lt_of_cell? W _ h.b)).trans h.b, (hb.cell (World.block_lt_of_cell? W _ h.s)).trans h.s, (hb.cell (World.block_lt_of_cell? W _ h.k)).trans h.k⟩
def erV (eb es ek : TypeId × Value) (n : Nat) : Value := if n = 1 then .iface eb.1 eb.2 else if n = 2 then .iface es.1 es.2 else if n = 3 then .iface ek.1 ek.2 else .nilIface
def ChkP (eb es ek : TypeId × Value) (F : FuncId) (one : Bool) (t : Tr) (d : Dt) : Prop := ∀ (P Q : Nat → Prop) (a : Option Addr) (c : Nat) (al : Option Addr) (cl : Nat) (af : Option Addr) (cf : Nat) (W : World), EC W eb es ek → LiesN W P a t.sub → LiesD W Q al d.l → LiesD W Q af d.f →
  Calls Tryz.prog F #[nodeV t a c, datumV d al cl af cf] W fun e w' => e = .returned (erV eb es ek (chk one t d)) ∧ Below W.heap.size W w'
theorem EC.two {W : World} {eb es ek : TypeId × Value} (h : EC W eb es ek) (o1 o2 : Obj) : EC ((W.alloc o1).alloc o2) eb es ek := h.keep (((Below.refl _ _).alloc (Nat.le_refl _) _).alloc (by simp) _)
def leafEr (no : Bool) (nl nf : Nat) (k kind n : Int) (len : Nat) : Nat := if (no || decide (0 < nl) || decide (0 < nf)) = true then 2 else if (!decide (k = kind) || !okV k k n len) = true then 3 else 0
set_option maxRecDepth 100000 in
set_option maxHeartbeats 1600000 in
/-- data.checkOne at a leaf. -/
theorem checkLeaf_any (eb es ek : TypeId × Value) (id rep kind : Int) (nm : ByteArray) (a : Option Addr) (ns c : Nat) (no : Bool) (k n : Int) (s : ByteArray) (al : Option Addr) (nl cl : Nat) (af : Option Addr) (nf cf : Nat) (W : World) (he : EC W eb es ek) (hk : kind ≠ 0) :
    Calls Tryz.prog 37 #[.agg #[.int .i64 id, .string nm, .int .i64 rep, .int .i64 kind, .slice a ns c], .agg #[.bool no, .int .i64 k, .int .i64 n, .string s, .slice al nl cl, .slice af nf cf]] W fun e w' => e = .returned (erV eb es ek (leafEr no nl nf k kind n s.size)) ∧ Below W.heap.size W w' := by
  have HB : Hid (Below W.heap.size W ((W.alloc (.cells #[.int .i64 id, .string nm, .int .i64 rep, .int .i64 kind, .slice a ns c] 24)).alloc (.cells #[.bool no, .int .i64 k, .int .i64 n, .string s, .slice al nl cl, .slice af nf cf] 29))) := ((Below.refl _ _).alloc (Nat.le_refl _) _).alloc (by simp) _
  have HEr : Hid (EC W eb es ek) := he
  have qk : (kind == 0) = false := by simp [hk]
  have HX : Hid (((W.alloc (.cells #[.int .i64 id, .string nm, .int .i64 rep, .int .i64 kind, .slice a ns c] 24)).alloc (.cells #[.bool no, .int .i64 k, .int .i64 n, .string s, .slice al nl cl, .slice af nf cf] 29)).heap[W.heap.size]? = some (.cells #[.int .i64 id, .string nm, .int .i64 rep, .int .i64 kind, .slice a ns c] 24 (0, 0))) := blk_alloc (heap_alloc_new W _)
  have HY : Hid (((W.alloc (.cells #[.int .i64 id, .string nm, .int .i64 rep, .int .i64 kind, .slice a ns c] 24)).alloc (.cells #[.bool no, .int .i64 k, .int .i64 n, .string s, .slice al nl cl, .slice af nf cf] 29)).heap[W.heap.size + 1]? = some (.cells #[.bool no, .int .i64 k, .int .i64 n, .string s, .slice al nl cl, .slice af nf cf] 29 (0, 0))) := (by
    have h := heap_alloc_new (W.alloc (.cells #[.int .i64 id, .string nm, .int .i64 rep, .int .i64 kind, .slice a ns c] 24)) (.cells #[.bool no, .int .i64 k, .int .i64 n, .string s, .slice al nl cl, .slice af nf cf] 29)
    rwa [show (W.alloc (.cells #[.int .i64 id, .string nm, .int .i64 rep, .int .i64 kind, .slice a ns c] 24)).heap.size = W.heap.size + 1 by simp] at h)
  have HK : Hid (kind ≠ 0) := hk
  clear he hk
  cases no with
  | true =>
    have g1 : ∀ o1 o2 : Obj, ((W.alloc o1).alloc o2).cell? ⟨2, 0, none⟩ = some (.iface es.1 es.2) := fun o1 o2 => (HEr.out.two o1 o2).s
    go_enter Tryz.func37, Tryz.ntmps37
    go_wp2
    go_ret
    exact ⟨by simp [erV, leafEr], HB.out⟩
  | false =>
    obtain ⟨b1, H1⟩ : ∃ b1, Hid (decide (0 < nl) = b1) := ⟨_, rfl⟩
    obtain ⟨b2, H2⟩ : ∃ b2, Hid (decide (0 < nf) = b2) := ⟨_, rfl⟩
    obtain ⟨b3, H3⟩ : ∃ b3, Hid (okV k k n s.size = b3) := ⟨_, rfl⟩
    go_enter Tryz.func37, Tryz.ntmps37
    go_wp2_with fail
    refine (hasElements_any false k n s al af nl cl nf cf _).mono ?_
    rw [H1.out]
    rintro e w1 ⟨rfl, hb1⟩
    have HB1 : Hid (Below W.heap.size W w1) := HB.out.trans (hb1.mono HB.out.size)
    have HX1 : Hid (w1.heap[W.heap.size]? = some (.cells #[.int .i64 id, .string nm, .int .i64 rep, .int .i64 kind, .slice a ns c] 24 (0, 0))) := blk_keep hb1 HX.out
    have HY1 : Hid (w1.heap[W.heap.size + 1]? = some (.cells #[.bool false, .int .i64 k, .int .i64 n, .string s, .slice al nl cl, .slice af nf cf] 29 (0, 0))) := blk_keep hb1 HY.out
    clear hb1
    cases b1 with
    | true =>
      have g1 := (HEr.out.keep HB1.out).s
      go_wp2
      go_ret
      exact ⟨by simp [erV, leafEr, H1.out], HB1.out⟩
    | false =>
      obtain ⟨d0, d1, d2, d3, d4, d5⟩ := row_six HY1.out
      go_wp2_with fail
      refine (hasFields_any false k n s al af nl cl nf cf _).mono ?_
      rw [H2.out]
      rintro e w2 ⟨rfl, hb2⟩
      have HB2 : Hid (Below W.heap.size W w2) := HB1.out.trans (hb2.mono HB1.out.size)
      have HX2 : Hid (w2.heap[W.heap.size]? = some (.cells #[.int .i64 id, .string nm, .int .i64 rep, .int .i64 kind, .slice a ns c] 24 (0, 0))) := blk_keep hb2 HX1.out
      have HY2 : Hid (w2.heap[W.heap.size + 1]? = some (.cells #[.bool false, .int .i64 k, .int .i64 n, .string s, .slice al nl cl, .slice af nf cf] 29 (0, 0))) := blk_keep hb2 HY1.out
      clear hb2 d0 d1 d2 d3 d4 d5
      cases b2 with
      | true =>
        have g1 := (HEr.out.keep HB2.out).s
        go_wp2
        go_ret
        exact ⟨by simp [erV, leafEr, H1.out, H2.out], HB2.out⟩
      | false =>
        obtain ⟨d0, d1, d2, d3, d4, d5⟩ := row_six HY2.out
        obtain ⟨⟨p0, p1, p2, p3, p4⟩, _⟩ := row_five HX2.out
        by_cases hkk : k = kind
        · subst hkk
          go_wp2_with fail
          refine (isValue_any k n s _).mono ?_
          rw [H3.out]
          rintro e w3 ⟨rfl, hb3⟩
          have HB3 : Hid (Below W.heap.size W w3) := HB2.out.trans (hb3.mono HB2.out.size)
          clear hb3 d0 d1 d2 d3 d4 d5 p0 p1 p2 p3 p4
          cases b3 with
          | true =>
            go_wp2
            go_ret
            exact ⟨by rw [leafEr, H1.out, H2.out, H3.out]; simp [erV], HB3.out⟩
          | false =>
            have g1 := (HEr.out.keep HB3.out).k
            go_wp2
            go_ret
            exact ⟨by rw [leafEr, H1.out, H2.out, H3.out]; simp [erV], HB3.out⟩
        · have q1 : (k == kind) = false := by simp [hkk]
          have HKK : Hid (leafEr false nl nf k kind n s.size = 3) := (by show _ = _; rw [leafEr, H1.out, H2.out]; simp [hkk])
          clear hkk
          have g1 := (HEr.out.keep HB2.out).k
          go_wp2
          go_ret
          exact ⟨by rw [HKK.out]; rfl, HB2.out⟩
end Go.Proofs.YtmfijliladancaaGreatDoor
