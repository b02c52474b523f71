/-
  data.Check: exact: which error, or none.
  data.Check: exact: groups, lists, and all of it.
  data.Check: exact: lists, and all of it.
  A projection is right.
  What a right datum is: one of four.
  data.Check: exact: all of it.
-/
import Derived.Test.YteonbmaokphleaaGreatDoorHWeightD
import Derived.Test.YteonbmaokphleaaGreatDoorHBIds
import Derived.Deep.RegionLaw
import Derived.RegionTactic
namespace Go.Proofs.YteonbmaokphleaaGreatDoor
open Go.RowKit
def hasV (v : Vl) : Bool := !(decide (v.k = 0 ∧ v.n = 0 ∧ v.s.toList = []))
set_option maxRecDepth 100000 in
set_option maxHeartbeats 1600000 in
theorem hasValue_any (no : Bool) (k n : Int) (s : ByteArray) (al af : Option Addr) (nl cl nf cf : Nat) (W : World) :
    Calls Tryz.prog 103 #[.agg #[.bool no, .int .i64 k, .int .i64 n, .string s, .slice al nl cl, .slice af nf cf]] W fun e w' => e = .returned (.bool (hasV ⟨k, n, s⟩)) ∧ Below W.heap.size W w' := by
 have HB : Hid (Below W.heap.size W (W.alloc (.cells #[.bool no, .int .i64 k, .int .i64 n, .string s, .slice al nl cl, .slice af nf cf] 56))) := (Below.refl _ _).alloc (Nat.le_refl _) _
 go_enter Tryz.func103, Tryz.ntmps103
 go_wp2
 all_goals go_ret
 all_goals exact ⟨by simp [hasV, *], by first | exact HB.out | simpa [*] using HB.out⟩
set_option maxRecDepth 100000 in
set_option maxHeartbeats 1600000 in
theorem hasElements_any (no : Bool) (k n : Int) (s : ByteArray) (al af : Option Addr) (nl cl nf cf : Nat) (W : World) :
    Calls Tryz.prog 105 #[.agg #[.bool no, .int .i64 k, .int .i64 n, .string s, .slice al nl cl, .slice af nf cf]] W fun e w' => e = .returned (.bool (decide (0 < nl))) ∧ Below W.heap.size W w' := by
 have HB : Hid (Below W.heap.size W (W.alloc (.cells #[.bool no, .int .i64 k, .int .i64 n, .string s, .slice al nl cl, .slice af nf cf] 56))) := (Below.refl _ _).alloc (Nat.le_refl _) _
 go_enter Tryz.func105, Tryz.ntmps105
 go_wp2
 go_ret
 exact ⟨by first | rfl | simp, HB.out⟩
set_option maxRecDepth 100000 in
set_option maxHeartbeats 1600000 in
theorem hasFields_any (no : Bool) (k n : Int) (s : ByteArray) (al af : Option Addr) (nl cl nf cf : Nat) (W : World) :
    Calls Tryz.prog 104 #[.agg #[.bool no, .int .i64 k, .int .i64 n, .string s, .slice al nl cl, .slice af nf cf]] W fun e w' => e = .returned (.bool (decide (0 < nf))) ∧ Below W.heap.size W w' := by
 have HB : Hid (Below W.heap.size W (W.alloc (.cells #[.bool no, .int .i64 k, .int .i64 n, .string s, .slice al nl cl, .slice af nf cf] 56))) := (Below.refl _ _).alloc (Nat.le_refl _) _
 go_enter Tryz.func104, Tryz.ntmps104
 go_wp2
 go_ret
 exact ⟨by first | rfl | simp, HB.out⟩
mutual
def chk (one : Bool) (t : Tr) : Dt → Nat
 | .mk no v l f =>
  if one = false ∧ t.rep = 3 then (if 40 < l.length then 1 else if (no || hasV v || decide (0 < f.length)) = true then 2 else chkL t l)
  else if one = false ∧ t.rep = 2 ∧ no = true then (if (hasV v || decide (0 < l.length) || decide (0 < f.length)) = true then 2 else 0)
  else if t.kind = 0 then (if (no || hasV v || decide (0 < l.length) || !decide (f.length = t.sub.length)) = true then 2 else chkF t.sub f)
  else if (no || decide (0 < l.length) || decide (0 < f.length)) = true then 2 else if (!decide (v.k = t.kind) || !okV v.k v.k v.n v.s.size) = true then 3 else 0
def chkL (t : Tr) : List Dt → Nat
 | [] => 0
 | d :: ds => if chk true t d = 0 then chkL t ds else chk true t d
def chkF : List Tr → List Dt → Nat
 | _, [] => 0
 | [], _ :: _ => 0
 | t :: ts, d :: ds => if chk false t d = 0 then chkF ts ds else chk false t d
end
theorem chk_eq (one : Bool) (t : Tr) (d : Dt) : chk one t d = if one = false ∧ t.rep = 3 then (if 40 < d.l.length then 1 else if (d.no || hasV d.v || decide (0 < d.f.length)) = true then 2 else chkL t d.l)
    else if one = false ∧ t.rep = 2 ∧ d.no = true then (if (hasV d.v || decide (0 < d.l.length) || decide (0 < d.f.length)) = true then 2 else 0)
    else if t.kind = 0 then (if (d.no || hasV d.v || decide (0 < d.l.length) || !decide (d.f.length = t.sub.length)) = true then 2 else chkF t.sub d.f)
    else if (d.no || decide (0 < d.l.length) || decide (0 < d.f.length)) = true then 2 else if (!decide (d.v.k = t.kind) || !okV d.v.k d.v.k d.v.n d.v.s.size) = true then 3 else 0 := by
 cases d with
 | mk no v l f => rw [chk]; rfl
theorem chkL_drop (t : Tr) (ds : List Dt) (i : Nat) (h : i < ds.length) : chkL t (ds.drop i) = if chk true t ds[i] = 0 then chkL t (ds.drop (i + 1)) else chk true t ds[i] := by
 rw [List.drop_eq_getElem_cons h, chkL]
theorem chkF_drop (ts : List Tr) (ds : List Dt) (i : Nat) (h : i < ds.length) (h' : i < ts.length) : chkF (ts.drop i) (ds.drop i) = if chk false ts[i] ds[i] = 0 then chkF (ts.drop (i + 1)) (ds.drop (i + 1)) else chk false ts[i] ds[i] := by
 rw [List.drop_eq_getElem_cons h, List.drop_eq_getElem_cons h', chkF]
structure EC (W : World) (eb es ek : TypeId × Value) : Prop where
 b : W.cell? ⟨0, 0, none⟩ = some (.iface eb.1 eb.2)
 s : W.cell? ⟨1, 0, none⟩ = some (.iface es.1 es.2)
 k : W.cell? ⟨4, 0, none⟩ = some (.iface ek.1 ek.2)
theorem EC.keep {W w' : World} {eb es ek : TypeId × Value} (h : EC W eb es ek) (hb : Below W.heap.size W w') : EC w' eb es ek :=
 ⟨(hb.cell (World.block_lt_of_cell? W _ h.b)).trans h.b, (hb.cell (World.block_lt_of_cell? W _ h.s)).trans h.s, (hb.cell (World.block_lt_of_cell? W _ h.k)).trans h.k⟩
def erV (eb es ek : TypeId × Value) (n : Nat) : Value := if n = 1 then .iface eb.1 eb.2 else if n = 2 then .iface es.1 es.2 else if n = 3 then .iface ek.1 ek.2 else .nilIface
def ChkP (eb es ek : TypeId × Value) (F : FuncId) (one : Bool) (t : Tr) (d : Dt) : Prop := ∀ (P Q : Nat → Prop) (a : Option Addr) (c : Nat) (al : Option Addr) (cl : Nat) (af : Option Addr) (cf : Nat) (W : World), EC W eb es ek → LiesN W P a t.sub → LiesD W Q al d.l → LiesD W Q af d.f →
 Calls Tryz.prog F #[nodeV t a c, datumV d al cl af cf] W fun e w' => e = .returned (erV eb es ek (chk one t d)) ∧ Below W.heap.size W w'
theorem EC.two {W : World} {eb es ek : TypeId × Value} (h : EC W eb es ek) (o1 o2 : Obj) : EC ((W.alloc o1).alloc o2) eb es ek := h.keep (((Below.refl _ _).alloc (Nat.le_refl _) _).alloc (by simp) _)
def leafEr (no : Bool) (nl nf : Nat) (k kind n : Int) (len : Nat) : Nat := if (no || decide (0 < nl) || decide (0 < nf)) = true then 2 else if (!decide (k = kind) || !okV k k n len) = true then 3 else 0
set_option maxRecDepth 100000 in
set_option maxHeartbeats 1600000 in
theorem checkLeaf_any (eb es ek : TypeId × Value) (id rep kind : Int) (nm : ByteArray) (a : Option Addr) (ns c : Nat) (no : Bool) (k n : Int) (s : ByteArray) (al : Option Addr) (nl cl : Nat) (af : Option Addr) (nf cf : Nat) (W : World) (he : EC W eb es ek) (hk : kind ≠ 0) :
    Calls Tryz.prog 70 #[.agg #[.int .i64 id, .string nm, .int .i64 rep, .int .i64 kind, .slice a ns c], .agg #[.bool no, .int .i64 k, .int .i64 n, .string s, .slice al nl cl, .slice af nf cf]] W fun e w' => e = .returned (erV eb es ek (leafEr no nl nf k kind n s.size)) ∧ Below W.heap.size W w' := by
 have HB : Hid (Below W.heap.size W ((W.alloc (.cells #[.int .i64 id, .string nm, .int .i64 rep, .int .i64 kind, .slice a ns c] 24)).alloc (.cells #[.bool no, .int .i64 k, .int .i64 n, .string s, .slice al nl cl, .slice af nf cf] 56))) := ((Below.refl _ _).alloc (Nat.le_refl _) _).alloc (by simp) _
 have HEr : Hid (EC W eb es ek) := he
 have qk : (kind == 0) = false := by simp [hk]
 have HX : Hid (((W.alloc (.cells #[.int .i64 id, .string nm, .int .i64 rep, .int .i64 kind, .slice a ns c] 24)).alloc (.cells #[.bool no, .int .i64 k, .int .i64 n, .string s, .slice al nl cl, .slice af nf cf] 56)).heap[W.heap.size]? = some (.cells #[.int .i64 id, .string nm, .int .i64 rep, .int .i64 kind, .slice a ns c] 24 (0, 0))) := blk_alloc (heap_alloc_new W _)
 have HY : Hid (((W.alloc (.cells #[.int .i64 id, .string nm, .int .i64 rep, .int .i64 kind, .slice a ns c] 24)).alloc (.cells #[.bool no, .int .i64 k, .int .i64 n, .string s, .slice al nl cl, .slice af nf cf] 56)).heap[W.heap.size + 1]? = some (.cells #[.bool no, .int .i64 k, .int .i64 n, .string s, .slice al nl cl, .slice af nf cf] 56 (0, 0))) := (by
  have h := heap_alloc_new (W.alloc (.cells #[.int .i64 id, .string nm, .int .i64 rep, .int .i64 kind, .slice a ns c] 24)) (.cells #[.bool no, .int .i64 k, .int .i64 n, .string s, .slice al nl cl, .slice af nf cf] 56)
  rwa [show (W.alloc (.cells #[.int .i64 id, .string nm, .int .i64 rep, .int .i64 kind, .slice a ns c] 24)).heap.size = W.heap.size + 1 by simp] at h)
 have HK : Hid (kind ≠ 0) := hk
 clear he hk
 cases no with
 | true =>
  have g1 : ∀ o1 o2 : Obj, ((W.alloc o1).alloc o2).cell? ⟨1, 0, none⟩ = some (.iface es.1 es.2) := fun o1 o2 => (HEr.out.two o1 o2).s
  go_enter Tryz.func70, Tryz.ntmps70
  go_wp2
  go_ret
  exact ⟨by simp [erV, leafEr], HB.out⟩
 | false =>
  obtain ⟨b1, H1⟩ : ∃ b1, Hid (decide (0 < nl) = b1) := ⟨_, rfl⟩
  obtain ⟨b2, H2⟩ : ∃ b2, Hid (decide (0 < nf) = b2) := ⟨_, rfl⟩
  obtain ⟨b3, H3⟩ : ∃ b3, Hid (okV k k n s.size = b3) := ⟨_, rfl⟩
  go_enter Tryz.func70, Tryz.ntmps70
  go_wp2_with fail
  refine (hasElements_any false k n s al af nl cl nf cf _).mono ?_
  rw [H1.out]
  rintro e w1 ⟨rfl, hb1⟩
  have HB1 : Hid (Below W.heap.size W w1) := HB.out.trans (hb1.mono HB.out.size)
  have HX1 : Hid (w1.heap[W.heap.size]? = some (.cells #[.int .i64 id, .string nm, .int .i64 rep, .int .i64 kind, .slice a ns c] 24 (0, 0))) := blk_keep hb1 HX.out
  have HY1 : Hid (w1.heap[W.heap.size + 1]? = some (.cells #[.bool false, .int .i64 k, .int .i64 n, .string s, .slice al nl cl, .slice af nf cf] 56 (0, 0))) := blk_keep hb1 HY.out
  clear hb1
  cases b1 with
  | true =>
   have g1 := (HEr.out.keep HB1.out).s
   go_wp2
   go_ret
   exact ⟨by simp [erV, leafEr, H1.out], HB1.out⟩
  | false =>
   obtain ⟨d0, d1, d2, d3, d4, d5⟩ := row_six HY1.out
   go_wp2_with fail
   refine (hasFields_any false k n s al af nl cl nf cf _).mono ?_
   rw [H2.out]
   rintro e w2 ⟨rfl, hb2⟩
   have HB2 : Hid (Below W.heap.size W w2) := HB1.out.trans (hb2.mono HB1.out.size)
   have HX2 : Hid (w2.heap[W.heap.size]? = some (.cells #[.int .i64 id, .string nm, .int .i64 rep, .int .i64 kind, .slice a ns c] 24 (0, 0))) := blk_keep hb2 HX1.out
   have HY2 : Hid (w2.heap[W.heap.size + 1]? = some (.cells #[.bool false, .int .i64 k, .int .i64 n, .string s, .slice al nl cl, .slice af nf cf] 56 (0, 0))) := blk_keep hb2 HY1.out
   clear hb2 d0 d1 d2 d3 d4 d5
   cases b2 with
   | true =>
    have g1 := (HEr.out.keep HB2.out).s
    go_wp2
    go_ret
    exact ⟨by simp [erV, leafEr, H1.out, H2.out], HB2.out⟩
   | false =>
    obtain ⟨d0, d1, d2, d3, d4, d5⟩ := row_six HY2.out
    obtain ⟨⟨p0, p1, p2, p3, p4⟩, _⟩ := row_five HX2.out
    by_cases hkk : k = kind
    · subst hkk
      go_wp2_with fail
      refine (isValue_any k n s _).mono ?_
      rw [H3.out]
      rintro e w3 ⟨rfl, hb3⟩
      have HB3 : Hid (Below W.heap.size W w3) := HB2.out.trans (hb3.mono HB2.out.size)
      clear hb3 d0 d1 d2 d3 d4 d5 p0 p1 p2 p3 p4
      cases b3 with
      | true =>
       go_wp2
       go_ret
       exact ⟨by rw [leafEr, H1.out, H2.out, H3.out]; simp [erV], HB3.out⟩
      | false =>
       have g1 := (HEr.out.keep HB3.out).k
       go_wp2
       go_ret
       exact ⟨by rw [leafEr, H1.out, H2.out, H3.out]; simp [erV], HB3.out⟩
    · have q1 : (k == kind) = false := by simp [hkk]
      have HKK : Hid (leafEr false nl nf k kind n s.size = 3) := (by show _ = _; rw [leafEr, H1.out, H2.out]; simp [hkk])
      clear hkk
      have g1 := (HEr.out.keep HB2.out).k
      go_wp2
      go_ret
      exact ⟨by rw [HKK.out]; rfl, HB2.out⟩
mutual
theorem chk_le : ∀ (d : Dt) (one : Bool) (t : Tr), chk one t d ≤ 3
 | .mk no v l f, one, t => by
  rw [chk]
  split
  · split
    · omega
    · split
      · omega
      · exact chkL_le l t
  · split
    · split <;> omega
    · split
      · split
        · omega
        · exact chkF_le f t.sub
      · split
        · omega
        · split <;> omega
theorem chkL_le : ∀ (ds : List Dt) (t : Tr), chkL t ds ≤ 3
 | [], t => by rw [chkL]; omega
 | d :: ds, t => by
  rw [chkL]
  split
  · exact chkL_le ds t
  · exact chk_le d true t
theorem chkF_le : ∀ (ds : List Dt) (ts : List Tr), chkF ts ds ≤ 3
 | [], ts => by cases ts <;> (rw [chkF]; omega)
 | d :: ds, [] => by rw [chkF]; omega
 | d :: ds, t :: ts => by
  rw [chkF]
  split
  · exact chkF_le ds ts
  · exact chk_le d false t
end
theorem erV_cases (eb es ek : TypeId × Value) (m : Nat) (h : m ≤ 3) : (m = 0 ∧ erV eb es ek m = .nilIface) ∨ (m ≠ 0 ∧ ∃ ty p, erV eb es ek m = .iface ty p) := by
 have hm : m = 0 ∨ m = 1 ∨ m = 2 ∨ m = 3 := by omega
 rcases hm with rfl | rfl | rfl | rfl
 · exact .inl ⟨rfl, rfl⟩
 · exact .inr ⟨by omega, _, _, rfl⟩
 · exact .inr ⟨by omega, _, _, rfl⟩
 · exact .inr ⟨by omega, _, _, rfl⟩
def noneEr (v : Vl) (nl nf : Nat) : Nat := if (hasV v || decide (0 < nl) || decide (0 < nf)) = true then 2 else 0
def grpEr (no : Bool) (v : Vl) (nl : Nat) (ts : List Tr) (fs : List Dt) : Nat := if (no || hasV v || decide (0 < nl) || !decide (fs.length = ts.length)) = true then 2 else chkF ts fs
def lstEr (no : Bool) (v : Vl) (t : Tr) (ls : List Dt) (nf : Nat) : Nat := if 40 < ls.length then 1 else if (no || hasV v || decide (0 < nf)) = true then 2 else chkL t ls
set_option maxRecDepth 100000 in
set_option maxHeartbeats 1600000 in
theorem checkNone_any (eb es ek : TypeId × Value) (no : Bool) (k n : Int) (s : ByteArray) (al : Option Addr) (nl cl : Nat) (af : Option Addr) (nf cf : Nat) (W : World) (he : EC W eb es ek) :
    Calls Tryz.prog 69 #[.agg #[.bool no, .int .i64 k, .int .i64 n, .string s, .slice al nl cl, .slice af nf cf]] W fun e w' => e = .returned (erV eb es ek (noneEr ⟨k, n, s⟩ nl nf)) ∧ Below W.heap.size W w' := by
 have HB : Hid (Below W.heap.size W (W.alloc (.cells #[.bool no, .int .i64 k, .int .i64 n, .string s, .slice al nl cl, .slice af nf cf] 56))) := (Below.refl _ _).alloc (Nat.le_refl _) _
 have HY : Hid ((W.alloc (.cells #[.bool no, .int .i64 k, .int .i64 n, .string s, .slice al nl cl, .slice af nf cf] 56)).heap[W.heap.size]? = some (.cells #[.bool no, .int .i64 k, .int .i64 n, .string s, .slice al nl cl, .slice af nf cf] 56 (0, 0))) := heap_alloc_new W _
 have HEr : Hid (EC W eb es ek) := he
 obtain ⟨b0, H0⟩ : ∃ b0, Hid (hasV ⟨k, n, s⟩ = b0) := ⟨_, rfl⟩
 obtain ⟨b1, H1⟩ : ∃ b1, Hid (decide (0 < nl) = b1) := ⟨_, rfl⟩
 obtain ⟨b2, H2⟩ : ∃ b2, Hid (decide (0 < nf) = b2) := ⟨_, rfl⟩
 clear he
 go_enter Tryz.func69, Tryz.ntmps69
 go_wp2_with fail
 refine (hasValue_any no k n s al af nl cl nf cf _).mono ?_
 rw [H0.out]
 rintro e w1 ⟨rfl, hb1⟩
 have HB1 : Hid (Below W.heap.size W w1) := HB.out.trans (hb1.mono HB.out.size)
 have HY1 : Hid (w1.heap[W.heap.size]? = some (.cells #[.bool no, .int .i64 k, .int .i64 n, .string s, .slice al nl cl, .slice af nf cf] 56 (0, 0))) := blk_keep hb1 HY.out
 clear hb1
 cases b0 with
 | true =>
  have g1 := (HEr.out.keep HB1.out).s
  go_wp2
  go_ret
  exact ⟨by rw [noneEr, H0.out]; rfl, HB1.out⟩
 | false =>
  obtain ⟨d0, d1, d2, d3, d4, d5⟩ := row_six HY1.out
  go_wp2_with fail
  refine (hasElements_any no k n s al af nl cl nf cf _).mono ?_
  rw [H1.out]
  rintro e w2 ⟨rfl, hb2⟩
  have HB2 : Hid (Below W.heap.size W w2) := HB1.out.trans (hb2.mono HB1.out.size)
  have HY2 : Hid (w2.heap[W.heap.size]? = some (.cells #[.bool no, .int .i64 k, .int .i64 n, .string s, .slice al nl cl, .slice af nf cf] 56 (0, 0))) := blk_keep hb2 HY1.out
  clear hb2 d0 d1 d2 d3 d4 d5
  cases b1 with
  | true =>
   have g1 := (HEr.out.keep HB2.out).s
   go_wp2
   go_ret
   exact ⟨by rw [noneEr, H0.out, H1.out]; rfl, HB2.out⟩
  | false =>
   obtain ⟨d0, d1, d2, d3, d4, d5⟩ := row_six HY2.out
   go_wp2_with fail
   refine (hasFields_any no k n s al af nl cl nf cf _).mono ?_
   rw [H2.out]
   rintro e w3 ⟨rfl, hb3⟩
   have HB3 : Hid (Below W.heap.size W w3) := HB2.out.trans (hb3.mono HB2.out.size)
   clear hb3 d0 d1 d2 d3 d4 d5
   cases b2 with
   | true =>
    have g1 := (HEr.out.keep HB3.out).s
    go_wp2
    go_ret
    exact ⟨by rw [noneEr, H0.out, H1.out, H2.out]; rfl, HB3.out⟩
   | false =>
    go_wp2
    go_ret
    exact ⟨by rw [noneEr, H0.out, H1.out, H2.out]; rfl, HB3.out⟩
set_option maxRecDepth 100000 in
set_option maxHeartbeats 1600000 in
theorem checkGroup_of (eb es ek : TypeId × Value) (t : Tr) (a : Option Addr) (c : Nat) (no : Bool) (k n : Int) (s : ByteArray) (al : Option Addr) (nl cl : Nat) (af : Option Addr) (cf : Nat) (fs : List Dt) (hsm : t.sub.length ≤ 1048576) (P Q : Nat → Prop) (W : World) (he : EC W eb es ek) (hl : LiesN W P a t.sub) (hf : LiesD W Q af fs)
    (IH : Hid (∀ j (hj : j < fs.length) (hj' : j < t.sub.length), ChkP eb es ek 41 false t.sub[j] fs[j])) :
    Calls Tryz.prog 106 #[nodeV t a c, .agg #[.bool no, .int .i64 k, .int .i64 n, .string s, .slice al nl cl, .slice af fs.length cf]] W fun e w' => e = .returned (erV eb es ek (grpEr no ⟨k, n, s⟩ nl t.sub fs)) ∧ Below W.heap.size W w' := by
 have HB : Hid (Below W.heap.size W ((W.alloc (.cells #[.int .i64 t.id, .string t.nm, .int .i64 t.rep, .int .i64 t.kind, .slice a t.sub.length c] 24)).alloc (.cells #[.bool no, .int .i64 k, .int .i64 n, .string s, .slice al nl cl, .slice af fs.length cf] 56))) := ((Below.refl _ _).alloc (Nat.le_refl _) _).alloc (by simp) _
 have HX : Hid (((W.alloc (.cells #[.int .i64 t.id, .string t.nm, .int .i64 t.rep, .int .i64 t.kind, .slice a t.sub.length c] 24)).alloc (.cells #[.bool no, .int .i64 k, .int .i64 n, .string s, .slice al nl cl, .slice af fs.length cf] 56)).heap[W.heap.size]? = some (.cells #[.int .i64 t.id, .string t.nm, .int .i64 t.rep, .int .i64 t.kind, .slice a t.sub.length c] 24 (0, 0))) := blk_alloc (heap_alloc_new W _)
 have HY : Hid (((W.alloc (.cells #[.int .i64 t.id, .string t.nm, .int .i64 t.rep, .int .i64 t.kind, .slice a t.sub.length c] 24)).alloc (.cells #[.bool no, .int .i64 k, .int .i64 n, .string s, .slice al nl cl, .slice af fs.length cf] 56)).heap[W.heap.size + 1]? = some (.cells #[.bool no, .int .i64 k, .int .i64 n, .string s, .slice al nl cl, .slice af fs.length cf] 56 (0, 0))) := (by
  have h := heap_alloc_new (W.alloc (.cells #[.int .i64 t.id, .string t.nm, .int .i64 t.rep, .int .i64 t.kind, .slice a t.sub.length c] 24)) (.cells #[.bool no, .int .i64 k, .int .i64 n, .string s, .slice al nl cl, .slice af fs.length cf] 56)
  rwa [show (W.alloc (.cells #[.int .i64 t.id, .string t.nm, .int .i64 t.rep, .int .i64 t.kind, .slice a t.sub.length c] 24)).heap.size = W.heap.size + 1 by simp] at h)
 have HEr : Hid (EC W eb es ek) := he
 have HL : Hid (LiesN W P a t.sub) := hl
 have HD : Hid (LiesD W Q af fs) := hf
 obtain ⟨b0, H0⟩ : ∃ b0, Hid (hasV ⟨k, n, s⟩ = b0) := ⟨_, rfl⟩
 obtain ⟨b1, H1⟩ : ∃ b1, Hid (decide (0 < nl) = b1) := ⟨_, rfl⟩
 clear he hl hf
 unfold nodeV
 cases no with
 | true =>
  have g1 : ∀ o1 o2 : Obj, ((W.alloc o1).alloc o2).cell? ⟨1, 0, none⟩ = some (.iface es.1 es.2) := fun o1 o2 => (HEr.out.two o1 o2).s
  go_enter Tryz.func106, Tryz.ntmps106
  go_wp2
  go_ret
  exact ⟨by rw [grpEr]; rfl, HB.out⟩
 | false =>
  go_enter Tryz.func106, Tryz.ntmps106
  go_wp2_with fail
  refine (hasValue_any false k n s al af nl cl fs.length cf _).mono ?_
  rw [H0.out]
  rintro e w1 ⟨rfl, hb1⟩
  have HB1 : Hid (Below W.heap.size W w1) := HB.out.trans (hb1.mono HB.out.size)
  have HX1 : Hid (w1.heap[W.heap.size]? = some (.cells #[.int .i64 t.id, .string t.nm, .int .i64 t.rep, .int .i64 t.kind, .slice a t.sub.length c] 24 (0, 0))) := blk_keep hb1 HX.out
  have HY1 : Hid (w1.heap[W.heap.size + 1]? = some (.cells #[.bool false, .int .i64 k, .int .i64 n, .string s, .slice al nl cl, .slice af fs.length cf] 56 (0, 0))) := blk_keep hb1 HY.out
  clear hb1 HX HY
  cases b0 with
  | true =>
   have g1 := (HEr.out.keep HB1.out).s
   go_wp2
   go_ret
   exact ⟨by rw [grpEr, H0.out]; rfl, HB1.out⟩
  | false =>
   obtain ⟨d0, d1, d2, d3, d4, d5⟩ := row_six HY1.out
   go_wp2_with fail
   refine (hasElements_any false k n s al af nl cl fs.length cf _).mono ?_
   rw [H1.out]
   rintro e w2 ⟨rfl, hb2⟩
   have HB2 : Hid (Below W.heap.size W w2) := HB1.out.trans (hb2.mono HB1.out.size)
   have HX2 : Hid (w2.heap[W.heap.size]? = some (.cells #[.int .i64 t.id, .string t.nm, .int .i64 t.rep, .int .i64 t.kind, .slice a t.sub.length c] 24 (0, 0))) := blk_keep hb2 HX1.out
   have HY2 : Hid (w2.heap[W.heap.size + 1]? = some (.cells #[.bool false, .int .i64 k, .int .i64 n, .string s, .slice al nl cl, .slice af fs.length cf] 56 (0, 0))) := blk_keep hb2 HY1.out
   clear hb2 d0 d1 d2 d3 d4 d5 HX1 HY1
   obtain ⟨d0, d1, d2, d3, d4, d5⟩ := row_six HY2.out
   obtain ⟨⟨p0, p1, p2, p3, p4⟩, _⟩ := row_five HX2.out
   cases b1 with
   | true =>
    have g1 := (HEr.out.keep HB2.out).s
    go_wp2
    go_ret
    exact ⟨by rw [grpEr, H0.out, H1.out]; rfl, HB2.out⟩
   | false =>
    by_cases hn : fs.length = t.sub.length
    · have q : ((fs.length : Int) == (t.sub.length : Int)) = true := by simp [hn]
      have HE : Hid (grpEr false ⟨k, n, s⟩ nl t.sub fs = chkF t.sub fs) := (by show _ = _; rw [grpEr, H0.out, H1.out]; simp [hn])
      have HN : Hid (fs.length = t.sub.length) := hn
      clear hn
      go_wp2
      clear q
      generalize ((fs.length : Int) != (t.sub.length : Int)) = bq
      go_loopw [31] (fun x wr => ∃ i : Nat, i ≤ t.sub.length ∧ x = .int .i64 i ∧ Hid (chkF t.sub fs = chkF (t.sub.drop i) (fs.drop i)) ∧ Hid (Below W.heap.size W wr) ∧ Hid (wr.heap[W.heap.size]? = some (.cells #[.int .i64 t.id, .string t.nm, .int .i64 t.rep, .int .i64 t.kind, .slice a t.sub.length c] 24 (0, 0))) ∧ Hid (wr.heap[W.heap.size + 1]? = some (.cells #[.bool false, .int .i64 k, .int .i64 n, .string s, .slice al nl cl, .slice af fs.length cf] 56 (0, 0)))) (fun x _ => t.sub.length - (intOf x).toNat)
      case atStart => exact ⟨0, Nat.zero_le _, rfl, rfl, HB2, HX2, HY2⟩
      case round =>
       clear HB2 HX2 HY2 d0 d1 d2 d3 d4 d5 p0 p1 p2 p3 p4 HB HB1
       obtain ⟨i, hi, rfl, HA, HB, HX, HY⟩ := hrel
       by_cases hlt : i < t.sub.length
       · have hlt' : i < fs.length := by rw [HN.out]; exact hlt
         obtain ⟨b, o, a1, c1, ea, d0, d1, d2, d3, d4, hl1⟩ := (HL.out.keep HB.out).at_ i hlt
         subst ea
         obtain ⟨b', o', al1, cl1, af1, cf1, ea, ⟨e0, e1, e2, e3, e4, e5⟩, hd1, hd2⟩ := (HD.out.keep HB.out).at_ i hlt'
         subst ea
         have hb2 : Below wr.heap.size wr (wr.alloc (.cells #[.int .i64 t.sub[i].id, .string t.sub[i].nm, .int .i64 t.sub[i].rep, .int .i64 t.sub[i].kind, .slice a1 t.sub[i].sub.length c1] 24)) := (Below.refl _ _).alloc (Nat.le_refl _) _
         have HB2 : Hid _ := hb2
         have HCk : Hid _ := IH.out i hlt' hlt P Q a1 c1 al1 cl1 af1 cf1 (wr.alloc (.cells #[.int .i64 t.sub[i].id, .string t.sub[i].nm, .int .i64 t.sub[i].rep, .int .i64 t.sub[i].kind, .slice a1 t.sub[i].sub.length c1] 24)).drew ((HEr.out.keep HB.out).keep hb2.drew) ((hl1.keep hb2).stay (fun _ h _ => h) (fun _ _ _ => rfl)) ((hd1.keep hb2).stay (fun _ h _ => h) (fun _ _ _ => rfl)) ((hd2.keep hb2).stay (fun _ h _ => h) (fun _ _ _ => rfl))
         obtain ⟨m, hm⟩ : ∃ m, chk false t.sub[i] fs[i] = m := ⟨_, rfl⟩
         have hle := chk_le fs[i] false t.sub[i]
         have hst := chkF_drop t.sub fs i hlt' hlt
         rw [hm] at hle hst
         have HCk2 := HCk.out
         rw [hm] at HCk2
         have HCk2 : Hid _ := HCk2
         have HSt : Hid _ := hst
         have HLe : Hid _ := hle
         clear hst hle hm HCk hl1 hd1 hd2
         obtain ⟨x0, x1, x2, x3, x4, x5⟩ := row_six (blk_alloc (o' := (.cells #[.int .i64 t.sub[i].id, .string t.sub[i].nm, .int .i64 t.sub[i].rep, .int .i64 t.sub[i].kind, .slice a1 t.sub[i].sub.length c1] 24)) HY.out)
         have y0 := (hb2.cell (World.block_lt_of_cell? wr _ e0)).trans e0
         have y1 := (hb2.cell (World.block_lt_of_cell? wr _ e1)).trans e1
         have y2 := (hb2.cell (World.block_lt_of_cell? wr _ e2)).trans e2
         have y3 := (hb2.cell (World.block_lt_of_cell? wr _ e3)).trans e3
         have y4 := (hb2.cell (World.block_lt_of_cell? wr _ e4)).trans e4
         have y5 := (hb2.cell (World.block_lt_of_cell? wr _ e5)).trans e5
         clear hb2 e0 e1 e2 e3 e4 e5
         go_wp2_with fail
         go_region_law (go_simp; refine Calls.mono HCk2.out ?_; rintro e w3 ⟨rfl, hb3'⟩; have HB3 : Hid (Below wr.heap.size wr w3) := HB2.out.drew.trans (hb3'.mono HB2.out.size); clear hb3')
         all_goals
          have HB4 : Hid (Below W.heap.size W w3) := HB.out.trans (HB3.out.mono HB.out.size)
          have HX4 : Hid (w3.heap[W.heap.size]? = some (.cells #[.int .i64 t.id, .string t.nm, .int .i64 t.rep, .int .i64 t.kind, .slice (some ⟨b, o, none⟩) t.sub.length c] 24 (0, 0))) := blk_keep HB3.out HX.out
          have HY4 : Hid (w3.heap[W.heap.size + 1]? = some (.cells #[.bool false, .int .i64 k, .int .i64 n, .string s, .slice al nl cl, .slice (some ⟨b', o', none⟩) fs.length cf] 56 (0, 0))) := blk_keep HB3.out HY.out
          rcases erV_cases eb es ek m HLe.out with ⟨hm0, he0⟩ | ⟨hm0, ty, pp, he0⟩
          · have HN2 : Hid (chkF t.sub fs = chkF (t.sub.drop (i + 1)) (fs.drop (i + 1))) := (by show _ = _; rw [HA.out, HSt.out, if_pos hm0])
            rw [he0]
            clear he0 hm0
            go_wp2
            go_roundw
            case rel => exact ⟨i + 1, by omega, by go_num, HN2, HB4, HX4, HY4⟩
            case measure => simp [intOf]; omega
          · have HN2 : Hid (erV eb es ek (chkF t.sub fs) = .iface ty pp) := (by show _ = _; rw [HA.out, HSt.out, if_neg hm0]; exact he0)
            rw [he0]
            clear he0 hm0
            go_wp2
            go_ret
            exact ⟨by rw [HE.out, HN2.out]; rfl, HB4.out⟩
       · obtain rfl : i = t.sub.length := by omega
         have HZ : Hid (chkF t.sub fs = 0) := (by
          show _ = _
          rw [HA.out, List.drop_length, ← HN.out, List.drop_length]
          rw [chkF])
         go_wp2
         go_ret
         exact ⟨by rw [HE.out, HZ.out]; rfl, HB.out⟩
    · have q : ((fs.length : Int) == (t.sub.length : Int)) = false := by rw [beq_eq_false_iff_ne]; omega
      have HE : Hid (grpEr false ⟨k, n, s⟩ nl t.sub fs = 2) := (by show _ = _; rw [grpEr, H0.out, H1.out]; simp [hn])
      have g1 := (HEr.out.keep HB2.out).s
      clear hn
      go_wp2
      go_ret
      exact ⟨by rw [HE.out]; rfl, HB2.out⟩
set_option maxRecDepth 100000 in
set_option maxHeartbeats 1600000 in
theorem checkList_of (eb es ek : TypeId × Value) (t : Tr) (a : Option Addr) (c : Nat) (no : Bool) (k n : Int) (s : ByteArray) (al : Option Addr) (cl : Nat) (ls : List Dt) (af : Option Addr) (nf cf : Nat) (hsm : ls.length ≤ 1048576) (P Q : Nat → Prop) (W : World) (he : EC W eb es ek) (hl : LiesN W P a t.sub) (hf : LiesD W Q al ls)
    (IH : Hid (∀ j (hj : j < ls.length), ChkP eb es ek 70 true t ls[j])) :
    Calls Tryz.prog 68 #[nodeV t a c, .agg #[.bool no, .int .i64 k, .int .i64 n, .string s, .slice al ls.length cl, .slice af nf cf]] W fun e w' => e = .returned (erV eb es ek (lstEr no ⟨k, n, s⟩ t ls nf)) ∧ Below W.heap.size W w' := by
 have HB : Hid (Below W.heap.size W ((W.alloc (.cells #[.int .i64 t.id, .string t.nm, .int .i64 t.rep, .int .i64 t.kind, .slice a t.sub.length c] 24)).alloc (.cells #[.bool no, .int .i64 k, .int .i64 n, .string s, .slice al ls.length cl, .slice af nf cf] 56))) := ((Below.refl _ _).alloc (Nat.le_refl _) _).alloc (by simp) _
 have HX : Hid (((W.alloc (.cells #[.int .i64 t.id, .string t.nm, .int .i64 t.rep, .int .i64 t.kind, .slice a t.sub.length c] 24)).alloc (.cells #[.bool no, .int .i64 k, .int .i64 n, .string s, .slice al ls.length cl, .slice af nf cf] 56)).heap[W.heap.size]? = some (.cells #[.int .i64 t.id, .string t.nm, .int .i64 t.rep, .int .i64 t.kind, .slice a t.sub.length c] 24 (0, 0))) := blk_alloc (heap_alloc_new W _)
 have HY : Hid (((W.alloc (.cells #[.int .i64 t.id, .string t.nm, .int .i64 t.rep, .int .i64 t.kind, .slice a t.sub.length c] 24)).alloc (.cells #[.bool no, .int .i64 k, .int .i64 n, .string s, .slice al ls.length cl, .slice af nf cf] 56)).heap[W.heap.size + 1]? = some (.cells #[.bool no, .int .i64 k, .int .i64 n, .string s, .slice al ls.length cl, .slice af nf cf] 56 (0, 0))) := (by
  have h := heap_alloc_new (W.alloc (.cells #[.int .i64 t.id, .string t.nm, .int .i64 t.rep, .int .i64 t.kind, .slice a t.sub.length c] 24)) (.cells #[.bool no, .int .i64 k, .int .i64 n, .string s, .slice al ls.length cl, .slice af nf cf] 56)
  rwa [show (W.alloc (.cells #[.int .i64 t.id, .string t.nm, .int .i64 t.rep, .int .i64 t.kind, .slice a t.sub.length c] 24)).heap.size = W.heap.size + 1 by simp] at h)
 have HEr : Hid (EC W eb es ek) := he
 have HL : Hid (LiesN W P a t.sub) := hl
 have HD : Hid (LiesD W Q al ls) := hf
 obtain ⟨b0, H0⟩ : ∃ b0, Hid (hasV ⟨k, n, s⟩ = b0) := ⟨_, rfl⟩
 obtain ⟨b1, H1⟩ : ∃ b1, Hid (decide (0 < nf) = b1) := ⟨_, rfl⟩
 have g1 : ∀ o1 o2 : Obj, ((W.alloc o1).alloc o2).cell? ⟨0, 0, none⟩ = some (.iface eb.1 eb.2) := fun o1 o2 => (HEr.out.two o1 o2).b
 have g2 : ∀ o1 o2 : Obj, ((W.alloc o1).alloc o2).cell? ⟨1, 0, none⟩ = some (.iface es.1 es.2) := fun o1 o2 => (HEr.out.two o1 o2).s
 clear he hl hf
 unfold nodeV
 by_cases h40 : 40 < ls.length
 · have HE : Hid (lstEr no ⟨k, n, s⟩ t ls nf = 1) := (by show _ = _; rw [lstEr, if_pos h40])
   have q : decide ((40 : Int) < (ls.length : Int)) = true := by simp; omega
   go_enter Tryz.func68, Tryz.ntmps68
   go_wp2
   go_ret
   exact ⟨by rw [HE.out]; rfl, HB.out⟩
 · have q : decide ((40 : Int) < (ls.length : Int)) = false := by simp; omega
   have HE0 : Hid (lstEr no ⟨k, n, s⟩ t ls nf = if (no || hasV ⟨k, n, s⟩ || decide (0 < nf)) = true then 2 else chkL t ls) := (by show _ = _; rw [lstEr, if_neg h40])
   cases no with
   | true =>
    go_enter Tryz.func68, Tryz.ntmps68
    go_wp2
    go_ret
    exact ⟨by rw [HE0.out]; rfl, HB.out⟩
   | false =>
    clear g1 g2
    go_enter Tryz.func68, Tryz.ntmps68
    go_wp2_with fail
    refine (hasValue_any false k n s al af ls.length cl nf cf _).mono ?_
    rw [H0.out]
    rintro e w1 ⟨rfl, hb1⟩
    have HB1 : Hid (Below W.heap.size W w1) := HB.out.trans (hb1.mono HB.out.size)
    have HX1 : Hid (w1.heap[W.heap.size]? = some (.cells #[.int .i64 t.id, .string t.nm, .int .i64 t.rep, .int .i64 t.kind, .slice a t.sub.length c] 24 (0, 0))) := blk_keep hb1 HX.out
    have HY1 : Hid (w1.heap[W.heap.size + 1]? = some (.cells #[.bool false, .int .i64 k, .int .i64 n, .string s, .slice al ls.length cl, .slice af nf cf] 56 (0, 0))) := blk_keep hb1 HY.out
    clear hb1 HX HY
    cases b0 with
    | true =>
     have g1 := (HEr.out.keep HB1.out).s
     go_wp2
     go_ret
     exact ⟨by rw [HE0.out, H0.out]; rfl, HB1.out⟩
    | false =>
     obtain ⟨d0, d1, d2, d3, d4, d5⟩ := row_six HY1.out
     go_wp2_with fail
     refine (hasFields_any false k n s al af ls.length cl nf cf _).mono ?_
     rw [H1.out]
     rintro e w2 ⟨rfl, hb2⟩
     have HB2 : Hid (Below W.heap.size W w2) := HB1.out.trans (hb2.mono HB1.out.size)
     have HX2 : Hid (w2.heap[W.heap.size]? = some (.cells #[.int .i64 t.id, .string t.nm, .int .i64 t.rep, .int .i64 t.kind, .slice a t.sub.length c] 24 (0, 0))) := blk_keep hb2 HX1.out
     have HY2 : Hid (w2.heap[W.heap.size + 1]? = some (.cells #[.bool false, .int .i64 k, .int .i64 n, .string s, .slice al ls.length cl, .slice af nf cf] 56 (0, 0))) := blk_keep hb2 HY1.out
     clear hb2 d0 d1 d2 d3 d4 d5 HX1 HY1
     obtain ⟨d0, d1, d2, d3, d4, d5⟩ := row_six HY2.out
     cases b1 with
     | true =>
      have g1 := (HEr.out.keep HB2.out).s
      go_wp2
      go_ret
      exact ⟨by rw [HE0.out, H0.out, H1.out]; rfl, HB2.out⟩
     | false =>
      have HE : Hid (lstEr false ⟨k, n, s⟩ t ls nf = chkL t ls) := (by show _ = _; rw [HE0.out, H0.out, H1.out]; rfl)
      go_wp2
      clear q
      generalize (decide ((40 : Int) < (ls.length : Int))) = bq
      go_loopw [27] (fun x wr => ∃ i : Nat, i ≤ ls.length ∧ x = .int .i64 i ∧ Hid (chkL t ls = chkL t (ls.drop i)) ∧ Hid (Below W.heap.size W wr) ∧ Hid (wr.heap[W.heap.size]? = some (.cells #[.int .i64 t.id, .string t.nm, .int .i64 t.rep, .int .i64 t.kind, .slice a t.sub.length c] 24 (0, 0))) ∧ Hid (wr.heap[W.heap.size + 1]? = some (.cells #[.bool false, .int .i64 k, .int .i64 n, .string s, .slice al ls.length cl, .slice af nf cf] 56 (0, 0)))) (fun x _ => ls.length - (intOf x).toNat)
      case atStart => exact ⟨0, Nat.zero_le _, rfl, rfl, HB2, HX2, HY2⟩
      case round =>
       clear HB2 HX2 HY2 d0 d1 d2 d3 d4 d5 HB HB1
       obtain ⟨i, hi, rfl, HA, HB, HX, HY⟩ := hrel
       by_cases hlt : i < ls.length
       · obtain ⟨b', o', al1, cl1, af1, cf1, ea, ⟨e0, e1, e2, e3, e4, e5⟩, hd1, hd2⟩ := (HD.out.keep HB.out).at_ i hlt
         subst ea
         have hb2 : Below wr.heap.size wr (wr.alloc (.cells #[.bool ls[i].no, .int .i64 ls[i].v.k, .int .i64 ls[i].v.n, .string ls[i].v.s, .slice al1 ls[i].l.length cl1, .slice af1 ls[i].f.length cf1] 56)) := (Below.refl _ _).alloc (Nat.le_refl _) _
         have HB2 : Hid _ := hb2
         have HCk2 := IH.out i hlt P Q a c al1 cl1 af1 cf1 (wr.alloc (.cells #[.bool ls[i].no, .int .i64 ls[i].v.k, .int .i64 ls[i].v.n, .string ls[i].v.s, .slice al1 ls[i].l.length cl1, .slice af1 ls[i].f.length cf1] 56)) ((HEr.out.keep HB.out).keep hb2) ((HL.out.keep HB.out).keep hb2) (hd1.keep hb2) (hd2.keep hb2)
         obtain ⟨m, hm⟩ : ∃ m, chk true t ls[i] = m := ⟨_, rfl⟩
         have hle := chk_le ls[i] true t
         have hst := chkL_drop t ls i hlt
         rw [hm] at hle hst HCk2
         have HCk2 : Hid _ := HCk2
         have HSt : Hid _ := hst
         have HLe : Hid _ := hle
         clear hst hle hm hd1 hd2
         obtain ⟨⟨p0, p1, p2, p3, p4⟩, _⟩ := row_five (blk_alloc (o' := (.cells #[.bool ls[i].no, .int .i64 ls[i].v.k, .int .i64 ls[i].v.n, .string ls[i].v.s, .slice al1 ls[i].l.length cl1, .slice af1 ls[i].f.length cf1] 56)) HX.out)
         clear hb2
         go_wp2_with fail
         refine Calls.mono HCk2.out ?_
         rintro e w3 ⟨rfl, hb3'⟩
         have HB3 : Hid (Below wr.heap.size wr w3) := HB2.out.trans (hb3'.mono HB2.out.size)
         clear hb3'
         have HB4 : Hid (Below W.heap.size W w3) := HB.out.trans (HB3.out.mono HB.out.size)
         have HX4 : Hid (w3.heap[W.heap.size]? = some (.cells #[.int .i64 t.id, .string t.nm, .int .i64 t.rep, .int .i64 t.kind, .slice a t.sub.length c] 24 (0, 0))) := blk_keep HB3.out HX.out
         have HY4 : Hid (w3.heap[W.heap.size + 1]? = some (.cells #[.bool false, .int .i64 k, .int .i64 n, .string s, .slice (some ⟨b', o', none⟩) ls.length cl, .slice af nf cf] 56 (0, 0))) := blk_keep HB3.out HY.out
         rcases erV_cases eb es ek m HLe.out with ⟨hm0, he0⟩ | ⟨hm0, ty, pp, he0⟩
         · have HN2 : Hid (chkL t ls = chkL t (ls.drop (i + 1))) := (by show _ = _; rw [HA.out, HSt.out, if_pos hm0])
           rw [he0]
           clear he0 hm0
           go_wp2
           go_roundw
           case rel => exact ⟨i + 1, by omega, by go_num, HN2, HB4, HX4, HY4⟩
           case measure => simp [intOf]; omega
         · have HN2 : Hid (erV eb es ek (chkL t ls) = .iface ty pp) := (by show _ = _; rw [HA.out, HSt.out, if_neg hm0]; exact he0)
           rw [he0]
           clear he0 hm0
           go_wp2
           go_ret
           exact ⟨by rw [HE.out, HN2.out]; rfl, HB4.out⟩
       · obtain rfl : i = ls.length := by omega
         have HZ : Hid (chkL t ls = 0) := (by show _ = _; rw [HA.out, List.drop_length]; rw [chkL])
         go_wp2
         go_ret
         exact ⟨by rw [HE.out, HZ.out]; rfl, HB.out⟩
theorem rk_dp (L : List Int) : ∀ (k : Nat) (t : Tr), t.Dp k → (rkT L t).Dp k
 | 0, t, h => absurd h.pos (Nat.lt_irrefl _)
 | k + 1, .node id nm rep kind sub, h => by
  rw [rkT]
  refine .mk k id nm rep kind _ fun j hj => ?_
  have hm : (rkL L sub)[j] ∈ (sub.filter (kept L)).map (rkT L) := by rw [← rkL_filter]; exact List.getElem_mem hj
  obtain ⟨y, hy, e⟩ := List.mem_map.1 hm
  obtain ⟨i, hi, rfl⟩ := List.getElem_of_mem (List.mem_filter.1 hy).1
  rw [← e]
  exact rk_dp L k _ (h.at_ i hi)
theorem rk_cnt (L : List Int) (t : Tr) : (rkT L t).cnt ≤ t.cnt := by
 rw [← ndT_len, rk_ndT, ← ndT_len t, ndT_eq t]
 simp only [List.length_cons, List.length_map]
 have := List.length_filter_le (kept L) (ndL t.sub)
 omega
theorem rk_nms {L : List Int} {ts : List Tr} (h : nmsL [] ts = true) : nmsL [] (rkL L ts) = true := by
 rw [nmsL_chk, chq_iff] at h ⊢
 obtain ⟨h1, h2, _⟩ := h
 rw [rkL_filter]
 refine ⟨fun p hp => ?_, ?_, fun a ha => by simp at ha⟩
 · obtain ⟨y, hy, rfl⟩ := List.mem_map.1 hp
   rw [(rkT_id L y).2.1]
   exact h1 y (List.mem_filter.1 hy).1
 · rw [List.pairwise_map]
   refine (h2.sublist List.filter_sublist).imp ?_
   intro a b hab
   unfold nmEq at hab ⊢
   rw [(rkT_id L a).2.1, (rkT_id L b).2.1]
   exact hab
theorem rk_ne {L : List Int} {y : Tr} (hk : y.kind = 0) (h : kept L y = true) : 0 < (rkL L y.sub).length := by
 obtain ⟨i, hi, hc⟩ := List.any_eq_true.1 h
 obtain ⟨l, hl, hlk, hli⟩ := lfI_mem.1 hi
 rw [ndT_eq] at hl
 rcases List.mem_cons.1 hl with rfl | hl
 · exact absurd hk hlk
 · obtain ⟨c, hcs, hlc⟩ := (ndL_mem _ _).1 hl
   rw [rkL_filter, List.length_map]
   exact List.length_pos_of_mem (List.mem_filter.2 ⟨hcs, List.any_eq_true.2 ⟨i, lfI_mem.2 ⟨l, hlc, hlk, hli⟩, hc⟩⟩)
theorem rk_shp {L : List Int} {y : Tr} (h : shpOk y = true) (hk : y.kind = 0 → kept L y = true) : shpOk (rkT L y) = true := by
 obtain ⟨k1, k2, k3, k4, k5⟩ := rkT_id L y
 unfold shpOk at h ⊢
 rw [k3, k4, k5]
 rw [Bool.and_eq_true] at h ⊢
 refine ⟨h.1, ?_⟩
 have h2 := h.2
 by_cases hk0 : y.kind = 0
 · have := rk_ne hk0 (hk hk0)
   simp [hk0, this]
 · have hs : ¬ 0 < y.sub.length := by
     intro hp
     simp [hk0, hp] at h2
   have hs2 : y.sub = [] := List.eq_nil_of_length_eq_zero (by omega)
   simp [hk0, hs2, rkL]
theorem right_lfOk {t : Tr} (hs : shpT t = true) : LfOk t := fun y hy hk => by
 rw [shp_all, Bool.and_eq_true] at hs
 have h : shpOk y = true := by
  rw [ndT_eq] at hy
  rcases List.mem_cons.1 hy with rfl | hy
  · exact hs.1
  · exact List.all_eq_true.1 hs.2 y hy
 unfold shpOk at h
 rw [Bool.and_eq_true] at h
 have h2 := h.2
 have hs : ¬ 0 < y.sub.length := by
  intro hp
  simp [hk, hp] at h2
 exact List.eq_nil_of_length_eq_zero (by omega)
theorem rk_right {L : List Int} {t : Tr} (hv : vldN t = 0) (hL : kept L t = true) : vldN (rkT L t) = 0 := by
 obtain ⟨r1, r2, r3, r4, r5⟩ := right_parts hv
 have hdB := dpB t 0 [] r1
 obtain ⟨k1, k2, k3, k4, k5⟩ := rkT_id L t
 have hkd : t.kind = 0 := (of_decide_eq_true r2).2.2.2
 have hd : (rkT L t).Dp 6 := rk_dp L 6 t hdB.2.2
 have hc := rk_cnt L t
 have h1 : inB (rkT L t) = true := by
  rw [inB_fl]
  have hp := flT_pre (rkT L t) [] 1 (-1) 6 (by simp; omega) hd (by omega)
  have hfl : fl (rkT L t) = preT 0 (rkT L t) 1 (-1) := by unfold fl; rw [hp]; rfl
  rw [hfl]
  exact ⟨by rw [preT_len]; omega, fun p h => by have := preT_deep (rkT L t) 0 1 (-1) 6 hd p h; omega⟩
 have h2 : isRootB (rkT L t) = true := by
  unfold isRootB at r2 ⊢
  rw [k1, k2, k3, k4]
  exact r2
 rw [shp_all, Bool.and_eq_true] at r3
 have hin : ∀ y ∈ ndL (rkT L t).sub, ∃ x ∈ ndL t.sub, kept L x = true ∧ y = rkT L x := fun y hy => by
  rw [k5, rk_nd L _ t.sub (Nat.lt_succ_self _)] at hy
  obtain ⟨x, hx, e⟩ := List.mem_map.1 hy
  obtain ⟨hx1, hx2⟩ := List.mem_filter.1 hx
  exact ⟨x, hx1, hx2, e.symm⟩
 have h3 : shpT (rkT L t) = true := by
  rw [shp_all, Bool.and_eq_true, List.all_eq_true]
  refine ⟨rk_shp r3.1 fun _ => hL, fun y hy => ?_⟩
  obtain ⟨x, hx, hk, rfl⟩ := hin y hy
  exact rk_shp (List.all_eq_true.1 r3.2 x hx) fun _ => hk
 rw [nms_all, Bool.and_eq_true] at r4
 have h4 : nmsT (rkT L t) = true := by
  rw [nms_all, Bool.and_eq_true, List.all_eq_true]
  refine ⟨by rw [k5]; exact rk_nms r4.1, fun y hy => ?_⟩
  obtain ⟨x, hx, hk, rfl⟩ := hin y hy
  rw [(rkT_id L x).2.2.2.2]
  exact rk_nms (List.all_eq_true.1 r4.2 x hx)
 have hu : IdU (rkT L t) := rk_idU (right_idU r2 r5)
 have h5 : idsT (rkT L t) = true := by
  rw [ids_fl, chq_iff] at r5 ⊢
  obtain ⟨hok, _, _⟩ := r5
  refine ⟨fun p hp => ?_, ?_, fun a ha => by simp at ha⟩
  · have hm : p.t ∈ ndL (rkT L t).sub := by rw [← preL_map (rkT L t).sub 1 2 0]; exact List.mem_map_of_mem hp
    obtain ⟨x, hx, _, e⟩ := hin _ hm
    rw [← preL_map t.sub 1 2 0] at hx
    obtain ⟨p', hp', rfl⟩ := List.mem_map.1 hx
    have := hok p' hp'
    rw [idOkP, decide_eq_true_iff] at this ⊢
    rw [e, (rkT_id L p'.t).1]
    exact this
  · unfold IdU at hu
    rw [ndT_eq, List.map_cons, List.nodup_cons, ← preL_map (rkT L t).sub 1 2 0, List.map_map, List.nodup_iff_pairwise_ne, List.pairwise_map] at hu
    refine hu.2.imp ?_
    intro a b h
    rw [idBadP, decide_eq_false_iff_not]
    exact h
 simp [vldN, h1, h2, h3, h4, h5]
theorem chkL_each (t : Tr) : ∀ ds, chkL t ds = 0 → ∀ j (h : j < ds.length), chk true t ds[j] = 0
 | [], _, j, h => absurd h (Nat.not_lt_zero _)
 | d :: ds, h0, j, h => by
  rw [chkL] at h0
  by_cases e : chk true t d = 0
  · rw [if_pos e] at h0
    cases j with
    | zero => exact e
    | succ j => exact chkL_each t ds h0 j (by simpa using h)
  · rw [if_neg e] at h0
    exact absurd h0 e
theorem chkF_each : ∀ (ts : List Tr) (ds : List Dt), chkF ts ds = 0 → ∀ j (h : j < ts.length) (h' : j < ds.length), chk false ts[j] ds[j] = 0
 | [], _, _, j, h, _ => absurd h (Nat.not_lt_zero _)
 | _ :: _, [], _, j, _, h' => absurd h' (Nat.not_lt_zero _)
 | t :: ts, d :: ds, h0, j, h, h' => by
  rw [chkF] at h0
  by_cases e : chk false t d = 0
  · rw [if_pos e] at h0
    cases j with
    | zero => exact e
    | succ j => exact chkF_each ts ds h0 j (by simpa using h) (by simpa using h')
  · rw [if_neg e] at h0
    exact absurd h0 e
theorem hasV_no {v : Vl} (h : hasV v = false) : v = ⟨0, 0, ⟨#[]⟩⟩ := by
 obtain ⟨k, n, s⟩ := v
 simp only [hasV, Bool.not_eq_false', decide_eq_true_eq] at h
 obtain ⟨rfl, rfl, h⟩ := h
 have h0 : s.size = 0 := (toList_nil s).1 h
 cases s with
 | mk a =>
  have : a = #[] := by
   have h1 : a.size = 0 := h0
   exact Array.eq_empty_of_size_eq_zero h1
  rw [this]
theorem nil_of {α : Type} {l : List α} (h : decide (0 < l.length) = false) : l = [] := by
 cases l with
 | nil => rfl
 | cons _ _ => simp at h
inductive Kd (one : Bool) (t : Tr) : Dt → Prop where
 | list (l : List Dt) (h1 : one = false) (h3 : t.rep = 3) (hl : l.length ≤ 40) (each : ∀ j (h : j < l.length), chk true t l[j] = 0) : Kd one t (.mk false ⟨0, 0, ⟨#[]⟩⟩ l [])
 | none (h1 : one = false) (h2 : t.rep = 2) : Kd one t (.mk true ⟨0, 0, ⟨#[]⟩⟩ [] [])
 | group (f : List Dt) (h1 : ¬ (one = false ∧ t.rep = 3)) (hk : t.kind = 0) (hl : f.length = t.sub.length) (each : ∀ j (h : j < t.sub.length) (h' : j < f.length), chk false t.sub[j] f[j] = 0) : Kd one t (.mk false ⟨0, 0, ⟨#[]⟩⟩ [] f)
 | leaf (v : Vl) (h1 : ¬ (one = false ∧ t.rep = 3)) (hk : t.kind ≠ 0) (hv : v.k = t.kind) (ok : OkV v.k v.k v.n v.s.size) : Kd one t (.mk false v [] [])
theorem kd_of {one : Bool} {t : Tr} {d : Dt} (h : chk one t d = 0) : Kd one t d := by
 obtain ⟨no, v, l, f⟩ := d
 rw [chk] at h
 by_cases c1 : one = false ∧ t.rep = 3
 · rw [if_pos c1] at h
   by_cases c2 : 40 < l.length
   · rw [if_pos c2] at h; omega
   rw [if_neg c2] at h
   by_cases c3 : (no || hasV v || decide (0 < f.length)) = true
   · rw [if_pos c3] at h; omega
   rw [if_neg c3] at h
   simp only [Bool.not_eq_true, Bool.or_eq_false_iff] at c3
   obtain ⟨⟨rfl, e2⟩, e3⟩ := c3
   obtain rfl := hasV_no e2
   obtain rfl := nil_of e3
   exact .list l c1.1 c1.2 (by omega) (chkL_each t l h)
 rw [if_neg c1] at h
 by_cases c2 : one = false ∧ t.rep = 2 ∧ no = true
 · rw [if_pos c2] at h
   by_cases c3 : (hasV v || decide (0 < l.length) || decide (0 < f.length)) = true
   · rw [if_pos c3] at h; omega
   simp only [Bool.not_eq_true, Bool.or_eq_false_iff] at c3
   obtain ⟨⟨e1, e2⟩, e3⟩ := c3
   obtain rfl := hasV_no e1
   obtain rfl := nil_of e2
   obtain rfl := nil_of e3
   obtain ⟨a1, a2, rfl⟩ := c2
   exact .none a1 a2
 rw [if_neg c2] at h
 by_cases c3 : t.kind = 0
 · rw [if_pos c3] at h
   by_cases c4 : (no || hasV v || decide (0 < l.length) || !decide (f.length = t.sub.length)) = true
   · rw [if_pos c4] at h; omega
   rw [if_neg c4] at h
   simp only [Bool.not_eq_true, Bool.or_eq_false_iff, Bool.not_eq_false', decide_eq_true_eq] at c4
   obtain ⟨⟨⟨rfl, e1⟩, e2⟩, e3⟩ := c4
   obtain rfl := hasV_no e1
   obtain rfl := nil_of e2
   exact .group f c1 c3 e3 (chkF_each t.sub f h)
 rw [if_neg c3] at h
 by_cases c4 : (no || decide (0 < l.length) || decide (0 < f.length)) = true
 · rw [if_pos c4] at h; omega
 rw [if_neg c4] at h
 by_cases c5 : (!decide (v.k = t.kind) || !okV v.k v.k v.n v.s.size) = true
 · rw [if_pos c5] at h; omega
 simp only [Bool.not_eq_true, Bool.or_eq_false_iff, Bool.not_eq_false', decide_eq_true_eq] at c4 c5
 obtain ⟨⟨rfl, e2⟩, e3⟩ := c4
 obtain rfl := nil_of e2
 obtain rfl := nil_of e3
 exact .leaf v c1 c3 c5.1 (okV_iff.1 c5.2)
theorem chk_leaf (t : Tr) (d : Dt) (hk : t.kind ≠ 0) : chk true t d = leafEr d.no d.l.length d.f.length d.v.k t.kind d.v.n d.v.s.size := by
 rw [chk_eq, if_neg (by simp), if_neg (by simp), if_neg hk, leafEr]
theorem chk_group (t : Tr) (d : Dt) (hk : t.kind = 0) : chk true t d = grpEr d.no d.v d.l.length t.sub d.f := by
 rw [chk_eq, if_neg (by simp), if_neg (by simp), if_pos hk, grpEr]
theorem chk_list (t : Tr) (d : Dt) (hr : t.rep = 3) : chk false t d = lstEr d.no d.v t d.l d.f.length := by
 rw [chk_eq, if_pos ⟨rfl, hr⟩, lstEr]
theorem chk_none (t : Tr) (d : Dt) (hr : t.rep = 2) (hn : d.no = true) : chk false t d = noneEr d.v d.l.length d.f.length := by
 rw [chk_eq, if_neg (by omega), if_pos ⟨rfl, hr, hn⟩, noneEr]
theorem chk_one (t : Tr) (d : Dt) (h3 : t.rep ≠ 3) (h2 : ¬ (t.rep = 2 ∧ d.no = true)) : chk false t d = chk true t d := by
 rw [chk_eq false t d, chk_eq true t d, if_neg (fun h => h3 h.2 : ¬ (false = false ∧ t.rep = 3)), if_neg (fun h => h2 h.2 : ¬ (false = false ∧ t.rep = 2 ∧ d.no = true)), if_neg (by simp : ¬ (true = false ∧ t.rep = 3)), if_neg (by simp : ¬ (true = false ∧ t.rep = 2 ∧ d.no = true))]
theorem Dt.sizeL (d : Dt) (j : Nat) (hj : j < d.l.length) : SizeOf.sizeOf d.l[j] < SizeOf.sizeOf d := by
 cases d with
 | mk no v l f =>
  have h := List.sizeOf_lt_of_mem (List.getElem_mem (l := l) (n := j) hj)
  show SizeOf.sizeOf l[j] < _
  simp only [Dt.mk.sizeOf_spec]
  omega
theorem Dt.sizeF (d : Dt) (j : Nat) (hj : j < d.f.length) : SizeOf.sizeOf d.f[j] < SizeOf.sizeOf d := by
 cases d with
 | mk no v l f =>
  have h := List.sizeOf_lt_of_mem (List.getElem_mem (l := f) (n := j) hj)
  show SizeOf.sizeOf f[j] < _
  simp only [Dt.mk.sizeOf_spec]
  omega
theorem Dt.Sm.lenL {d : Dt} (h : d.Sm) : d.l.length ≤ 1048576 := by cases h with | mk no v l f hs hl hf el ef => exact hl
theorem Dt.Sm.atL {d : Dt} (h : d.Sm) (j : Nat) (hj : j < d.l.length) : d.l[j].Sm := by cases h with | mk no v l f hs hl hf el ef => exact el j hj
theorem Dt.Sm.atF {d : Dt} (h : d.Sm) (j : Nat) (hj : j < d.f.length) : d.f[j].Sm := by cases h with | mk no v l f hs hl hf el ef => exact ef j hj
set_option maxRecDepth 100000 in
set_option maxHeartbeats 1600000 in
theorem checkOne_group (eb es ek : TypeId × Value) (t : Tr) (d : Dt) (hk : t.kind = 0) (r : Nat) (a : Option Addr) (c : Nat) (al : Option Addr) (cl : Nat) (af : Option Addr) (cf : Nat) (W : World)
    (HC : Hid (Calls Tryz.prog 106 #[nodeV t a c, datumV d al cl af cf] ((W.alloc (.cells #[.int .i64 t.id, .string t.nm, .int .i64 t.rep, .int .i64 t.kind, .slice a t.sub.length c] 24)).alloc (.cells #[.bool d.no, .int .i64 d.v.k, .int .i64 d.v.n, .string d.v.s, .slice al d.l.length cl, .slice af d.f.length cf] 56)) fun e w' => e = .returned (erV eb es ek r) ∧ Below ((W.alloc (.cells #[.int .i64 t.id, .string t.nm, .int .i64 t.rep, .int .i64 t.kind, .slice a t.sub.length c] 24)).alloc (.cells #[.bool d.no, .int .i64 d.v.k, .int .i64 d.v.n, .string d.v.s, .slice al d.l.length cl, .slice af d.f.length cf] 56)).heap.size ((W.alloc (.cells #[.int .i64 t.id, .string t.nm, .int .i64 t.rep, .int .i64 t.kind, .slice a t.sub.length c] 24)).alloc (.cells #[.bool d.no, .int .i64 d.v.k, .int .i64 d.v.n, .string d.v.s, .slice al d.l.length cl, .slice af d.f.length cf] 56)) w')) :
    Calls Tryz.prog 70 #[nodeV t a c, datumV d al cl af cf] W fun e w' => e = .returned (erV eb es ek r) ∧ Below W.heap.size W w' := by
 have HB : Hid (Below W.heap.size W ((W.alloc (.cells #[.int .i64 t.id, .string t.nm, .int .i64 t.rep, .int .i64 t.kind, .slice a t.sub.length c] 24)).alloc (.cells #[.bool d.no, .int .i64 d.v.k, .int .i64 d.v.n, .string d.v.s, .slice al d.l.length cl, .slice af d.f.length cf] 56))) := ((Below.refl _ _).alloc (Nat.le_refl _) _).alloc (by simp) _
 have qk : (t.kind == 0) = true := by simp [hk]
 clear hk
 unfold nodeV datumV
 go_enter Tryz.func70, Tryz.ntmps70
 go_wp2_with fail
 refine Calls.mono HC.out ?_
 rintro e w1 ⟨rfl, hb1⟩
 have HB1 : Hid (Below W.heap.size W w1) := HB.out.trans (hb1.mono HB.out.size)
 clear hb1
 go_wp2
 go_ret
 exact ⟨rfl, HB1.out⟩
set_option maxRecDepth 100000 in
set_option maxHeartbeats 1600000 in
theorem check_of (eb es ek : TypeId × Value) (t : Tr) (d : Dt)
    (H1 : Hid (ChkP eb es ek 70 true t d))
    (HL : Hid (∀ (P Q : Nat → Prop) (a : Option Addr) (c : Nat) (al : Option Addr) (cl : Nat) (af : Option Addr) (cf : Nat) (W : World), EC W eb es ek → LiesN W P a t.sub → LiesD W Q al d.l → Calls Tryz.prog 68 #[nodeV t a c, datumV d al cl af cf] W fun e w' => e = .returned (erV eb es ek (lstEr d.no d.v t d.l d.f.length)) ∧ Below W.heap.size W w')) :
    ChkP eb es ek 41 false t d := by
 intro P Q a c al cl af cf W he hl hd1 hd2
 have hb : Below W.heap.size W ((W.alloc (.cells #[.int .i64 t.id, .string t.nm, .int .i64 t.rep, .int .i64 t.kind, .slice a t.sub.length c] 24)).alloc (.cells #[.bool d.no, .int .i64 d.v.k, .int .i64 d.v.n, .string d.v.s, .slice al d.l.length cl, .slice af d.f.length cf] 56)) := ((Below.refl _ _).alloc (Nat.le_refl _) _).alloc (by simp) _
 have HB : Hid (Below W.heap.size W ((W.alloc (.cells #[.int .i64 t.id, .string t.nm, .int .i64 t.rep, .int .i64 t.kind, .slice a t.sub.length c] 24)).alloc (.cells #[.bool d.no, .int .i64 d.v.k, .int .i64 d.v.n, .string d.v.s, .slice al d.l.length cl, .slice af d.f.length cf] 56))) := hb
 have HO : Hid _ := H1.out P Q a c al cl af cf ((W.alloc (.cells #[.int .i64 t.id, .string t.nm, .int .i64 t.rep, .int .i64 t.kind, .slice a t.sub.length c] 24)).alloc (.cells #[.bool d.no, .int .i64 d.v.k, .int .i64 d.v.n, .string d.v.s, .slice al d.l.length cl, .slice af d.f.length cf] 56)) (he.keep hb) (hl.keep hb) (hd1.keep hb) (hd2.keep hb)
 have HLi : Hid _ := HL.out P Q a c al cl af cf ((W.alloc (.cells #[.int .i64 t.id, .string t.nm, .int .i64 t.rep, .int .i64 t.kind, .slice a t.sub.length c] 24)).alloc (.cells #[.bool d.no, .int .i64 d.v.k, .int .i64 d.v.n, .string d.v.s, .slice al d.l.length cl, .slice af d.f.length cf] 56)) (he.keep hb) (hl.keep hb) (hd1.keep hb)
 have HNo : Hid _ := checkNone_any eb es ek d.no d.v.k d.v.n d.v.s al d.l.length cl af d.f.length cf ((W.alloc (.cells #[.int .i64 t.id, .string t.nm, .int .i64 t.rep, .int .i64 t.kind, .slice a t.sub.length c] 24)).alloc (.cells #[.bool d.no, .int .i64 d.v.k, .int .i64 d.v.n, .string d.v.s, .slice al d.l.length cl, .slice af d.f.length cf] 56)) (he.keep hb)
 clear hl hd1 hd2 hb he H1 HL
 unfold nodeV datumV
 by_cases h3 : t.rep = 3
 · have HE : Hid _ := chk_list t d h3
   have q3 : (t.rep == 3) = true := by simp [h3]
   clear h3
   go_enter Tryz.func41, Tryz.ntmps41
   go_wp2_with fail
   refine Calls.mono HLi.out ?_
   rintro e w1 ⟨rfl, hb1⟩
   have HB1 : Hid (Below W.heap.size W w1) := HB.out.trans (hb1.mono HB.out.size)
   clear hb1
   go_wp2
   go_ret
   exact ⟨by rw [HE.out]; rfl, HB1.out⟩
 · have q3 : (t.rep == 3) = false := by simp [h3]
   by_cases h2 : t.rep = 2
   · have q2 : (t.rep == 2) = true := by simp [h2]
     obtain ⟨bn, hbn⟩ : ∃ bn, d.no = bn := ⟨_, rfl⟩
     cases bn with
     | true =>
      have HE : Hid _ := chk_none t d h2 hbn
      clear h2 h3
      rw [hbn] at HNo HB
      go_enter Tryz.func41, Tryz.ntmps41
      go_wp2_with fail
      refine Calls.mono HNo.out ?_
      rintro e w1 ⟨rfl, hb1⟩
      have HB1 : Hid (Below W.heap.size W w1) := HB.out.trans (hb1.mono HB.out.size)
      clear hb1
      go_wp2
      go_ret
      exact ⟨by rw [HE.out]; rfl, HB1.out⟩
     | false =>
      have HE : Hid _ := chk_one t d h3 (fun h => by rw [hbn] at h; simp at h)
      clear h2 h3
      unfold nodeV datumV at HO
      rw [hbn] at HO HB
      go_enter Tryz.func41, Tryz.ntmps41
      go_wp2_with fail
      refine Calls.mono HO.out ?_
      rintro e w1 ⟨rfl, hb1⟩
      have HB1 : Hid (Below W.heap.size W w1) := HB.out.trans (hb1.mono HB.out.size)
      clear hb1
      go_wp2
      go_ret
      exact ⟨by rw [HE.out]; rfl, HB1.out⟩
   · have q2 : (t.rep == 2) = false := by simp [h2]
     have HE : Hid _ := chk_one t d h3 (fun h => h2 h.1)
     clear h2 h3
     go_enter Tryz.func41, Tryz.ntmps41
     go_wp2_with fail
     refine Calls.mono HO.out ?_
     rintro e w1 ⟨rfl, hb1⟩
     have HB1 : Hid (Below W.heap.size W w1) := HB.out.trans (hb1.mono HB.out.size)
     clear hb1
     go_wp2
     go_ret
     exact ⟨by rw [HE.out]; rfl, HB1.out⟩
theorem check_all (eb es ek : TypeId × Value) : ∀ (n : Nat) (d : Dt), SizeOf.sizeOf d < n → d.Sm → ∀ t : Tr, t.Sm → ChkP eb es ek 70 true t d ∧ ChkP eb es ek 41 false t d
 | 0, d, h => absurd h (Nat.not_lt_zero _)
 | n + 1, d, hsz => fun hd t ht => by
  have h1 : ChkP eb es ek 70 true t d := by
   intro P Q a c al cl af cf W he hl hd1 hd2
   by_cases hk : t.kind = 0
   · rw [chk_group t d hk]
     refine checkOne_group eb es ek t d hk _ a c al cl af cf W ?_
     have hb : Below W.heap.size W ((W.alloc (.cells #[.int .i64 t.id, .string t.nm, .int .i64 t.rep, .int .i64 t.kind, .slice a t.sub.length c] 24)).alloc (.cells #[.bool d.no, .int .i64 d.v.k, .int .i64 d.v.n, .string d.v.s, .slice al d.l.length cl, .slice af d.f.length cf] 56)) := ((Below.refl _ _).alloc (Nat.le_refl _) _).alloc (by simp) _
     exact checkGroup_of eb es ek t a c d.no d.v.k d.v.n d.v.s al d.l.length cl af cf d.f ht.len P Q _ (he.keep hb) (hl.keep hb) (hd2.keep hb) (fun j hj hj' => (check_all eb es ek n d.f[j] (by have := d.sizeF j hj; omega) (hd.atF j hj) t.sub[j] (ht.at_ j hj')).2)
   · rw [chk_leaf t d hk]
     exact checkLeaf_any eb es ek t.id t.rep t.kind t.nm a t.sub.length c d.no d.v.k d.v.n d.v.s al d.l.length cl af d.f.length cf W he hk
  exact ⟨h1, check_of eb es ek t d h1 (fun P Q a c al cl af cf W he hl hd1 => checkList_of eb es ek t a c d.no d.v.k d.v.n d.v.s al cl d.l af d.f.length cf hd.lenL P Q W he hl hd1 (fun j hj => (check_all eb es ek n d.l[j] (by have := d.sizeL j hj; omega) (hd.atL j hj) t ht).1))⟩
set_option maxRecDepth 100000 in
set_option maxHeartbeats 1600000 in
theorem checkD_right (eb es ek en : TypeId × Value) (t : Tr) (d : Dt) (n : Nat) (hd : t.Dp n) (hn : n ≤ 1100000) (hs : t.Sm) (hds : d.Sm) (hv : vldN t = 0) (P Q : Nat → Prop) (a : Option Addr) (c : Nat) (hcap : t.sub.length ≤ c) (al : Option Addr) (cl : Nat) (af : Option Addr) (cf : Nat) (W : World) (he : EC W eb es ek) (hen : W.cell? ⟨5, 0, none⟩ = some (.iface en.1 en.2)) (hl : LiesN W P a t.sub) (hd1 : LiesD W Q al d.l) (hd2 : LiesD W Q af d.f) :
    Calls Tryz.prog 25 #[nodeV t a c, datumV d al cl af cf] W fun e w' => e = .returned (erV eb es ek (chk false t d)) ∧ Below W.heap.size W w' := by
 have hb : Below W.heap.size W ((W.alloc (.cells #[.int .i64 t.id, .string t.nm, .int .i64 t.rep, .int .i64 t.kind, .slice a t.sub.length c] 24)).alloc (.cells #[.bool d.no, .int .i64 d.v.k, .int .i64 d.v.n, .string d.v.s, .slice al d.l.length cl, .slice af d.f.length cf] 56)) := ((Below.refl _ _).alloc (Nat.le_refl _) _).alloc (by simp) _
 have HB : Hid (Below W.heap.size W ((W.alloc (.cells #[.int .i64 t.id, .string t.nm, .int .i64 t.rep, .int .i64 t.kind, .slice a t.sub.length c] 24)).alloc (.cells #[.bool d.no, .int .i64 d.v.k, .int .i64 d.v.n, .string d.v.s, .slice al d.l.length cl, .slice af d.f.length cf] 56))) := hb
 have HX : Hid (((W.alloc (.cells #[.int .i64 t.id, .string t.nm, .int .i64 t.rep, .int .i64 t.kind, .slice a t.sub.length c] 24)).alloc (.cells #[.bool d.no, .int .i64 d.v.k, .int .i64 d.v.n, .string d.v.s, .slice al d.l.length cl, .slice af d.f.length cf] 56)).heap[W.heap.size]? = some (.cells #[.int .i64 t.id, .string t.nm, .int .i64 t.rep, .int .i64 t.kind, .slice a t.sub.length c] 24 (0, 0))) := blk_alloc (heap_alloc_new W _)
 have HY : Hid (((W.alloc (.cells #[.int .i64 t.id, .string t.nm, .int .i64 t.rep, .int .i64 t.kind, .slice a t.sub.length c] 24)).alloc (.cells #[.bool d.no, .int .i64 d.v.k, .int .i64 d.v.n, .string d.v.s, .slice al d.l.length cl, .slice af d.f.length cf] 56)).heap[W.heap.size + 1]? = some (.cells #[.bool d.no, .int .i64 d.v.k, .int .i64 d.v.n, .string d.v.s, .slice al d.l.length cl, .slice af d.f.length cf] 56 (0, 0))) := (by
  have h := heap_alloc_new (W.alloc (.cells #[.int .i64 t.id, .string t.nm, .int .i64 t.rep, .int .i64 t.kind, .slice a t.sub.length c] 24)) (.cells #[.bool d.no, .int .i64 d.v.k, .int .i64 d.v.n, .string d.v.s, .slice al d.l.length cl, .slice af d.f.length cf] 56)
  rwa [show (W.alloc (.cells #[.int .i64 t.id, .string t.nm, .int .i64 t.rep, .int .i64 t.kind, .slice a t.sub.length c] 24)).heap.size = W.heap.size + 1 by simp] at h)
 have hvv : vldV (.iface eb.1 eb.2) (.iface es.1 es.2) (.iface en.1 en.2) t = .nilIface := vldV_nil hv
 have HV := valid_any t n hd hn hs a c P ((W.alloc (.cells #[.int .i64 t.id, .string t.nm, .int .i64 t.rep, .int .i64 t.kind, .slice a t.sub.length c] 24)).alloc (.cells #[.bool d.no, .int .i64 d.v.k, .int .i64 d.v.n, .string d.v.s, .slice al d.l.length cl, .slice af d.f.length cf] 56)) (hl.keep hb) hcap eb es en (he.keep hb).b (he.keep hb).s ((hb.cell (World.block_lt_of_cell? W _ hen)).trans hen)
 rw [hvv] at HV
 have HV : Hid _ := HV
 have HCk : Hid _ := (check_all eb es ek _ d (Nat.lt_succ_self _) hds t hs).2
 have HEr : Hid (EC W eb es ek) := he
 have HL : Hid (LiesN W P a t.sub) := hl
 have HD1 : Hid (LiesD W Q al d.l) := hd1
 have HD2 : Hid (LiesD W Q af d.f) := hd2
 clear hb he hen hl hd1 hd2 hd hs hds hv hvv
 unfold nodeV datumV
 go_enter Tryz.func25, Tryz.ntmps25
 go_wp2_with fail
 refine Calls.mono HV.out ?_
 rintro e w1 ⟨rfl, hb1⟩
 have HB1 : Hid (Below W.heap.size W w1) := HB.out.trans (hb1.mono HB.out.size)
 have HX1 : Hid (w1.heap[W.heap.size]? = some (.cells #[.int .i64 t.id, .string t.nm, .int .i64 t.rep, .int .i64 t.kind, .slice a t.sub.length c] 24 (0, 0))) := blk_keep hb1 HX.out
 have HY1 : Hid (w1.heap[W.heap.size + 1]? = some (.cells #[.bool d.no, .int .i64 d.v.k, .int .i64 d.v.n, .string d.v.s, .slice al d.l.length cl, .slice af d.f.length cf] 56 (0, 0))) := blk_keep hb1 HY.out
 clear hb1 HV
 obtain ⟨d0, d1, d2, d3, d4, d5⟩ := row_six HY1.out
 obtain ⟨⟨p0, p1, p2, p3, p4⟩, _⟩ := row_five HX1.out
 have HC : Hid _ := HCk.out P Q a c al cl af cf w1 (HEr.out.keep HB1.out) (HL.out.keep HB1.out) (HD1.out.keep HB1.out) (HD2.out.keep HB1.out)
 go_wp2_with fail
 refine Calls.mono HC.out ?_
 rintro e w2 ⟨rfl, hb2⟩
 have HB2 : Hid (Below W.heap.size W w2) := HB1.out.trans (hb2.mono HB1.out.size)
 clear hb2 d0 d1 d2 d3 d4 d5 p0 p1 p2 p3 p4
 go_wp2
 go_ret
 exact ⟨rfl, HB2.out⟩
end Go.Proofs.YteonbmaokphleaaGreatDoor
