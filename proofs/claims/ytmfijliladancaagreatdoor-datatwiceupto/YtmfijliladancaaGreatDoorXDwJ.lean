/-
  The reader of a record's text: one datum, a node.
-/
import Derived.Test.YtmfijliladancaaGreatDoorXDwH
import Derived.Test.YtmfijliladancaaGreatDoorXDwI
namespace Go.Proofs.YtmfijliladancaaGreatDoor
open Go.RowKit
/-- What a datum's reading holds: the reader, the node's box, the result's. -/
structure DbI (W : World) (r : Nat) (s : ByteArray) (q : Nat) (t : Tr) (xa : Option Addr) (xc : Nat) (X : World) : Prop where
  rd : Rdd r s q X
  nd : X.heap[W.heap.size]? = some (.cells #[.int .i64 t.id, .string t.nm, .int .i64 t.rep, .int .i64 t.kind, .slice xa t.sub.length xc] 24 (0, 0))
  re : X.heap[W.heap.size + 1]? = some (.cells #[.bool false, .int .i64 0, .int .i64 0, .string ⟨#[]⟩, .slice none 0 0, .slice none 0 0] 29 (0, 0))
  fr : RFr r W X
  lt : r < W.heap.size
theorem DbI.step {W : World} {r : Nat} {s : ByteArray} {q q2 : Nat} {t : Tr} {xa : Option Addr} {xc : Nat} {X w' : World} (h : DbI W r s q t xa xc X) (hr : Rdd r s q2 w') (hf : RFr r X w') : DbI W r s q2 t xa xc w' :=
  ⟨hr, hf.box h.nd (by have := h.lt; omega), hf.box h.re (by have := h.lt; omega), h.fr.trans hf, h.lt⟩
theorem DbI.start {W : World} {r : Nat} {s : ByteArray} {p : Nat} (t : Tr) (xa : Option Addr) (xc : Nat) (hr : Rdd r s p W) : ∃ w0, Hid ((W.alloc (.cells #[.int .i64 t.id, .string t.nm, .int .i64 t.rep, .int .i64 t.kind, .slice xa t.sub.length xc] 24)).alloc (.cells #[.bool false, .int .i64 0, .int .i64 0, .string ⟨#[]⟩, .slice none 0 0, .slice none 0 0] 29) = w0) ∧ Hid (DbI W r s p t xa xc w0) := by
  obtain ⟨w0, HW0, HX, HY, HB⟩ := two_boxesS W #[.int .i64 t.id, .string t.nm, .int .i64 t.rep, .int .i64 t.kind, .slice xa t.sub.length xc] #[.bool false, .int .i64 0, .int .i64 0, .string ⟨#[]⟩, .slice none 0 0, .slice none 0 0] 24 29
  exact ⟨w0, HW0, hr.keep HB.out, HX.out, HY.out, .of_below HB.out, lt_of_block hr⟩
/-- Six cells of the result are set: what is behind it. -/
theorem DbI.six {W : World} {r : Nat} {s : ByteArray} {q : Nat} {t : Tr} {xa : Option Addr} {xc : Nat} {X : World} (h : DbI W r s q t xa xc X) (v0 v1 v2 v3 v4 v5 : Value) : ((((((X.setCell ⟨W.heap.size + 1, 0, none⟩ v0).setCell ⟨W.heap.size + 1, 1, none⟩ v1).setCell ⟨W.heap.size + 1, 2, none⟩ v2).setCell ⟨W.heap.size + 1, 3, none⟩ v3).setCell ⟨W.heap.size + 1, 4, none⟩ v4).setCell ⟨W.heap.size + 1, 5, none⟩ v5).heap[W.heap.size + 1]? = some (.cells #[v0, v1, v2, v3, v4, v5] 29 (0, 0)) ∧ Rdd r s q ((((((X.setCell ⟨W.heap.size + 1, 0, none⟩ v0).setCell ⟨W.heap.size + 1, 1, none⟩ v1).setCell ⟨W.heap.size + 1, 2, none⟩ v2).setCell ⟨W.heap.size + 1, 3, none⟩ v3).setCell ⟨W.heap.size + 1, 4, none⟩ v4).setCell ⟨W.heap.size + 1, 5, none⟩ v5) ∧ RFr r W ((((((X.setCell ⟨W.heap.size + 1, 0, none⟩ v0).setCell ⟨W.heap.size + 1, 1, none⟩ v1).setCell ⟨W.heap.size + 1, 2, none⟩ v2).setCell ⟨W.heap.size + 1, 3, none⟩ v3).setCell ⟨W.heap.size + 1, 4, none⟩ v4).setCell ⟨W.heap.size + 1, 5, none⟩ v5) := by
  have hlt := h.lt
  have hg : W.heap.size ≤ W.heap.size + 1 := by omega
  have hn : r ≠ W.heap.size + 1 := by omega
  have st : ∀ (Y : World) (j : Nat) (v : Value), (Y.setCell ⟨W.heap.size + 1, j, none⟩ v).heap[r]? = Y.heap[r]? := fun Y j v => Below.heap_setCell Y ⟨W.heap.size + 1, j, none⟩ v r hn
  refine ⟨row_setC (row_setC (row_setC (row_setC (row_setC (row_setC h.re))))), ?_, (((((h.fr.setNw hg).setNw hg).setNw hg).setNw hg).setNw hg).setNw hg⟩
  unfold Rdd
  rw [st, st, st, st, st, st]
  exact h.rd
theorem LiesD.six {W X : World} {g : Nat} {a : Option Addr} {ds : List Dt} {N : Nat} (h : LiesD X (fun b => N ≤ b) a ds) (hN : g < N) (hW : W.heap.size ≤ N) (v0 v1 v2 v3 v4 v5 : Value) : LiesD ((((((X.setCell ⟨g, 0, none⟩ v0).setCell ⟨g, 1, none⟩ v1).setCell ⟨g, 2, none⟩ v2).setCell ⟨g, 3, none⟩ v3).setCell ⟨g, 4, none⟩ v4).setCell ⟨g, 5, none⟩ v5) (fun b => W.heap.size ≤ b) a ds := by
  have st : ∀ (Y : World) (j : Nat) (v : Value) (b : Nat), N ≤ b → (Y.setCell ⟨g, j, none⟩ v).heap[b]? = Y.heap[b]? := fun Y j v b hb => Below.heap_setCell Y ⟨g, j, none⟩ v b (by show b ≠ g; omega)
  refine h.stay (fun b hb _ => by omega) (fun b hb _ => ?_)
  rw [st _ _ _ _ hb, st _ _ _ _ hb, st _ _ _ _ hb, st _ _ _ _ hb, st _ _ _ _ hb, st _ _ _ _ hb]
theorem liesD_nil (W : World) (P : Nat → Prop) (a : Option Addr) : LiesD W P a [] := ⟨fun _ => [], fun j hj => absurd hj (by simp), fun j hj => absurd hj (by simp)⟩
set_option maxRecDepth 100000 in
set_option maxHeartbeats 6400000 in
theorem one_group (t : Tr) (hk : t.kind = 0) (hsl : t.sub.length ≤ 1048576) (fs : List Dt) (hlen : fs.length = t.sub.length) (each : ∀ j (h : j < t.sub.length) (h' : j < fs.length), RdN t.sub[j] fs[j]) : RdO t (.mk false ⟨0, 0, ⟨#[]⟩⟩ [] fs) := fun r s p xa xc W hr hs hw hp hnd htab hl => by
  have e : tx true t (.mk false ⟨0, 0, ⟨#[]⟩⟩ [] fs) = gT t.sub (txF t.sub fs) t.sub.length ++ [125] := by rw [tx_eq, if_neg (by simp), if_neg (by simp), if_pos hk]; rfl
  rw [e] at hw ⊢
  obtain ⟨w0, HW0, HI0⟩ := DbI.start t xa xc hr
  have hrw := HI0.out.lt
  have HC : Hid _ := dgroup_of t hsl fs hlen each r s p xa xc w0 HI0.out.rd hs hw (htab.on HI0.out.fr) (hl.rf HI0.out.fr)
  have hsz : W.heap.size + 1 < w0.heap.size := lt_of_block HI0.out.re
  obtain ⟨L, HLn⟩ := hid_name (gT t.sub (txF t.sub fs) t.sub.length ++ [125]).length
  rw [HLn.out] at HC ⊢
  have q : (t.kind == 0) = true := by simp [hk]
  obtain ⟨⟨p0, p1, p2, p3, p4⟩, _⟩ := row_five HI0.out.nd
  clear hr hw hnd htab hl each e hk hlen
  unfold nodeV datumV
  go_enter Tryz.func33, Tryz.ntmps33
  go_upto_region 1 with fail
  rw [HW0.out]
  go_wp2_with fail
  refine Calls.mono HC.out ?_
  rintro e w1 ⟨a1, c1, rfl, hl1, hr1, hf1⟩
  have HI1 : Hid _ := HI0.out.step hr1 hf1
  have HL1 : Hid (LiesD w1 (fun b => w0.heap.size ≤ b) a1 fs) := hl1
  clear hr1 hf1 hl1 p0 p1 p2 p3 p4
  obtain ⟨z0, z1, z2, z3, z4, z5⟩ := row_six HI1.out.re
  obtain ⟨y0, y1, y2, y3, y4, y5⟩ := row_six_z HI1.out.re
  go_wp2
  exact bodyPost_ret (v := .agg #[.bool false, .int .i64 0, .int .i64 0, .string ⟨#[]⟩, .slice none 0 0, .slice a1 fs.length c1]) (results_cell_row Tryz.results33 _ _ (W.heap.size + 1) 29 #[.bool false, .int .i64 0, .int .i64 0, .string ⟨#[]⟩, .slice none 0 0, .slice a1 fs.length c1] (0, 0) _ rfl (HI1.out.six _ _ _ _ _ _).1 Tryz.underlying29 rfl (by kernel_rfl)) rfl ⟨none, 0, a1, c1, rfl, liesD_nil _ _ _, HL1.out.six hsz (by omega) _ _ _ _ _ _, (HI1.out.six _ _ _ _ _ _).2.1, (HI1.out.six _ _ _ _ _ _).2.2⟩
set_option maxRecDepth 100000 in
set_option maxHeartbeats 6400000 in
theorem node_one (t : Tr) (y : Dt) (h3 : t.rep ≠ 3) (hno : y.no = false) (ho : RdO t y) (hhd : ∃ c u, tx true t y = c :: u ∧ c ≠ 93 ∧ c ≠ 110) : RdN t y := fun r s p xa xc W hr hs hw hp hnd htab hl => by
  have e : tx false t y = tx true t y := by
    rw [tx_eq false t y, tx_eq true t y, if_neg (show ¬ (false = false ∧ t.rep = 3) from fun h => h3 h.2), if_neg (show ¬ (false = false ∧ y.no = true) by rw [hno]; simp), if_neg (show ¬ (true = false ∧ t.rep = 3) by simp), if_neg (show ¬ (true = false ∧ y.no = true) by simp)]
  rw [e] at hw hnd ⊢
  obtain ⟨w0, HW0, HI0⟩ := DbI.start t xa xc hr
  have hrw := HI0.out.lt
  have hsz : W.heap.size + 1 < w0.heap.size := lt_of_block HI0.out.re
  obtain ⟨c, u, hcu, _, h110⟩ := hhd
  have HN : Hid (∀ k, Calls Tryz.prog (31) #[.pointer (some ⟨r, 0, none⟩)] (w0.drewN k) fun e w' => e = .returned (.int .u8 c.toNat) ∧ ∃ m, w' = (w0.drewN k).drewN m) := fun k => by
    have h := dnext_any r s p (w0.drewN k) (HI0.out.rd.drew k) hp
    rw [hcu] at hw
    rw [hw.nx] at h
    exact h
  have hO : ∀ k, _ := fun k => ho r s p xa xc (w0.drewN k) (HI0.out.rd.drew k) hs hw hp hnd (htab.on (rfr_drew HI0.out.fr k)) (hl.rf (rfr_drew HI0.out.fr k))
  unfold nodeV at hO
  have HO : Hid _ := hO
  obtain ⟨L, HLn⟩ := hid_name (tx true t y).length
  rw [HLn.out] at HO ⊢
  have q3 : (t.rep == 3) = false := by simp [h3]
  have q110 : ((c.toNat : Int) == 110) = false := by
    rw [beq_eq_false_iff_ne]
    intro e
    exact h110 (UInt8.toNat_inj.1 (by show c.toNat = 110; omega))
  obtain ⟨⟨p0, p1, p2, p3, p4⟩, _⟩ := row_five HI0.out.nd
  have q110c : ((c.toNat : Int) == (((⟨#[110, 117, 108, 108]⟩ : ByteArray)[0]'(by decide)).toNat : Int)) = false := q110
  have q110b : (c.toNat == 110) = false := by
    rw [beq_eq_false_iff_ne]
    intro e
    exact h110 (UInt8.toNat_inj.1 e)
  obtain ⟨b2, HB2⟩ := hid_name (t.rep == 2)
  have hb2 : (t.rep == 2) = b2 := HB2.out
  clear hr hw hnd htab hl e ho hO h3 hcu h110
  unfold nodeV datumV
  go_enter Tryz.func18, Tryz.ntmps18
  go_upto_region 1 with fail
  rw [HW0.out]
  go_wp2_with fail
  cases b2 with
  | false =>
    go_quiet ((go_at_call 31; exact Calls.quiet_of (HN.out _)))
    go_wp2_with fail
    refine Calls.mono (HO.out _) ?_
    rintro e w1 ⟨al, cl, af, cf, rfl, hl1, hf1, hr1, hfr1⟩
    have HI1 : Hid (DbI W r s (p + L) t xa xc w1) := HI0.out.step hr1 ((rfr_drew (RFr.refl r w0) _).trans hfr1)
    have HL1 : Hid (LiesD w1 (fun b => w0.heap.size ≤ b) al y.l) := hl1
    have HL2 : Hid (LiesD w1 (fun b => w0.heap.size ≤ b) af y.f) := hf1
    clear hr1 hfr1 hl1 hf1 p0 p1 p2 p3 p4
    obtain ⟨z0, z1, z2, z3, z4, z5⟩ := row_six HI1.out.re
    obtain ⟨y0, y1, y2, y3, y4, y5⟩ := row_six_z HI1.out.re
    unfold datumV
    go_wp2
    exact bodyPost_ret (v := .agg #[.bool false, .int .i64 y.v.k, .int .i64 y.v.n, .string y.v.s, .slice al y.l.length cl, .slice af y.f.length cf]) (results_cell_row Tryz.results18 _ _ (W.heap.size + 1) 29 #[.bool false, .int .i64 y.v.k, .int .i64 y.v.n, .string y.v.s, .slice al y.l.length cl, .slice af y.f.length cf] (0, 0) _ rfl (HI1.out.six _ _ _ _ _ _).1 Tryz.underlying29 rfl (by kernel_rfl)) rfl ⟨al, cl, af, cf, (by first | rfl | rw [hno]), HL1.out.six hsz (by omega) _ _ _ _ _ _, HL2.out.six hsz (by omega) _ _ _ _ _ _, (HI1.out.six _ _ _ _ _ _).2.1, (HI1.out.six _ _ _ _ _ _).2.2⟩
  | true =>
    go_quiet ((go_at_call 31; exact Calls.quiet_of (HN.out _)))
    go_wp2_with fail
    refine Calls.mono (HO.out _) ?_
    rintro e w1 ⟨al, cl, af, cf, rfl, hl1, hf1, hr1, hfr1⟩
    have HI1 : Hid (DbI W r s (p + L) t xa xc w1) := HI0.out.step hr1 ((rfr_drew (RFr.refl r w0) _).trans hfr1)
    have HL1 : Hid (LiesD w1 (fun b => w0.heap.size ≤ b) al y.l) := hl1
    have HL2 : Hid (LiesD w1 (fun b => w0.heap.size ≤ b) af y.f) := hf1
    clear hr1 hfr1 hl1 hf1 p0 p1 p2 p3 p4
    obtain ⟨z0, z1, z2, z3, z4, z5⟩ := row_six HI1.out.re
    obtain ⟨y0, y1, y2, y3, y4, y5⟩ := row_six_z HI1.out.re
    unfold datumV
    go_wp2
    exact bodyPost_ret (v := .agg #[.bool false, .int .i64 y.v.k, .int .i64 y.v.n, .string y.v.s, .slice al y.l.length cl, .slice af y.f.length cf]) (results_cell_row Tryz.results18 _ _ (W.heap.size + 1) 29 #[.bool false, .int .i64 y.v.k, .int .i64 y.v.n, .string y.v.s, .slice al y.l.length cl, .slice af y.f.length cf] (0, 0) _ rfl (HI1.out.six _ _ _ _ _ _).1 Tryz.underlying29 rfl (by kernel_rfl)) rfl ⟨al, cl, af, cf, (by first | rfl | rw [hno]), HL1.out.six hsz (by omega) _ _ _ _ _ _, HL2.out.six hsz (by omega) _ _ _ _ _ _, (HI1.out.six _ _ _ _ _ _).2.1, (HI1.out.six _ _ _ _ _ _).2.2⟩
set_option maxRecDepth 100000 in
set_option maxHeartbeats 6400000 in
theorem one_leaf (t : Tr) (v : Vl) (hk : t.kind ≠ 0) (hv : v.k = t.kind) (hin : v.In) (hok : OkV v.k v.k v.n v.s.size) : RdO t (.mk false v [] []) := fun r s p xa xc W hr hs hw hp hnd htab hl => by
  have e : tx true t (.mk false v [] []) = vx v := by rw [tx_eq, if_neg (by simp), if_neg (by simp), if_neg hk]; rfl
  rw [e] at hw hnd ⊢
  obtain ⟨w0, HW0, HI0⟩ := DbI.start t xa xc hr
  have hrw := HI0.out.lt
  have hC := value_any r s p v hin hok w0 HI0.out.rd hs hw hp hnd (htab.on HI0.out.fr)
  have hkk : (v.k : Int) = t.kind := hv
  rw [hkk] at hC
  have HC : Hid _ := hC
  have hsz : W.heap.size + 1 < w0.heap.size := lt_of_block HI0.out.re
  obtain ⟨L, HLn⟩ := hid_name (vx v).length
  rw [HLn.out] at HC ⊢
  have q : (t.kind == 0) = false := by simp [hk]
  have HV : Hid (v.k = t.kind) := hv
  obtain ⟨⟨p0, p1, p2, p3, p4⟩, _⟩ := row_five HI0.out.nd
  clear hr hw hnd htab hl e hk hC hkk hv hok hin
  unfold nodeV datumV
  go_enter Tryz.func33, Tryz.ntmps33
  go_upto_region 1 with fail
  rw [HW0.out]
  go_wp2_with fail
  refine Calls.mono HC.out ?_
  rintro e w1 ⟨rfl, hr1, hf1⟩
  have HI1 : Hid _ := HI0.out.step hr1 hf1
  clear hr1 hf1 p0 p1 p2 p3 p4
  obtain ⟨z0, z1, z2, z3, z4, z5⟩ := row_six HI1.out.re
  obtain ⟨y0, y1, y2, y3, y4, y5⟩ := row_six_z HI1.out.re
  go_wp2
  exact bodyPost_ret (v := .agg #[.bool false, .int .i64 t.kind, .int .i64 v.n, .string v.s, .slice none 0 0, .slice none 0 0]) (results_cell_row Tryz.results33 _ _ (W.heap.size + 1) 29 #[.bool false, .int .i64 t.kind, .int .i64 v.n, .string v.s, .slice none 0 0, .slice none 0 0] (0, 0) _ rfl (HI1.out.six _ _ _ _ _ _).1 Tryz.underlying29 rfl (by kernel_rfl)) rfl ⟨none, 0, none, 0, by rw [← HV.out]; rfl, liesD_nil _ _ _, liesD_nil _ _ _, (HI1.out.six _ _ _ _ _ _).2.1, (HI1.out.six _ _ _ _ _ _).2.2⟩
set_option maxRecDepth 100000 in
set_option maxHeartbeats 6400000 in
theorem node_null (t : Tr) (h2 : t.rep = 2) : RdN t (.mk true ⟨0, 0, ⟨#[]⟩⟩ [] []) := fun r s p xa xc W hr hs hw hp hnd htab hl => by
  have e : tx false t (.mk true ⟨0, 0, ⟨#[]⟩⟩ [] []) = [110, 117, 108, 108] := by rw [tx_eq, if_neg (by omega), if_pos ⟨rfl, rfl⟩]
  rw [e] at hw ⊢
  obtain ⟨w0, HW0, HI0⟩ := DbI.start t xa xc hr
  have hrw := HI0.out.lt
  have hsz : W.heap.size + 1 < w0.heap.size := lt_of_block HI0.out.re
  have HN : Hid (∀ k, Calls Tryz.prog (31) #[.pointer (some ⟨r, 0, none⟩)] (w0.drewN k) fun e w' => e = .returned (.int .u8 110) ∧ ∃ m, w' = (w0.drewN k).drewN m) := fun k => by
    have h := dnext_any r s p (w0.drewN k) (HI0.out.rd.drew k) hp
    rw [hw.nx] at h
    exact h
  have HT : Hid (∀ k, Calls Tryz.prog (32) #[.pointer (some ⟨r, 0, none⟩), .string ⟨#[110, 117, 108, 108]⟩] (w0.drewN k) fun e w' => e = .returned (.tuple #[]) ∧ Rdd r s (p + 4) w' ∧ RFr r (w0.drewN k) w') := fun k => dtake_any r s ⟨#[110, 117, 108, 108]⟩ p (w0.drewN k) (HI0.out.rd.drew k) hs hw hp
  have q3 : (t.rep == 3) = false := by rw [h2]; rfl
  have q2 : (t.rep == 2) = true := by rw [h2]; rfl
  have q110c : ((110 : Int) == (((⟨#[110, 117, 108, 108]⟩ : ByteArray)[0]'(by decide)).toNat : Int)) = true := by decide
  obtain ⟨⟨p0, p1, p2, p3, p4⟩, _⟩ := row_five HI0.out.nd
  clear hr hw hnd htab hl e h2
  unfold nodeV datumV
  go_enter Tryz.func18, Tryz.ntmps18
  go_upto_region 1 with fail
  rw [HW0.out]
  go_wp2_with fail
  go_quiet ((go_at_call 31; exact Calls.quiet_of (HN.out _)))
  go_wp2_with fail
  refine Calls.mono (HT.out _) ?_
  rintro e w1 ⟨rfl, hr1, hfr1⟩
  have HI1 : Hid (DbI W r s (p + 4) t xa xc w1) := HI0.out.step hr1 ((rfr_drew (RFr.refl r w0) _).trans hfr1)
  clear hr1 hfr1 p0 p1 p2 p3 p4
  obtain ⟨z0, z1, z2, z3, z4, z5⟩ := row_six HI1.out.re
  obtain ⟨y0, y1, y2, y3, y4, y5⟩ := row_six_z HI1.out.re
  go_wp2
  exact bodyPost_ret (v := .agg #[.bool true, .int .i64 0, .int .i64 0, .string ⟨#[]⟩, .slice none 0 0, .slice none 0 0]) (results_cell_row Tryz.results18 _ _ (W.heap.size + 1) 29 #[.bool true, .int .i64 0, .int .i64 0, .string ⟨#[]⟩, .slice none 0 0, .slice none 0 0] (0, 0) _ rfl (HI1.out.six _ _ _ _ _ _).1 Tryz.underlying29 rfl (by kernel_rfl)) rfl ⟨none, 0, none, 0, rfl, liesD_nil _ _ _, liesD_nil _ _ _, (HI1.out.six _ _ _ _ _ _).2.1, (HI1.out.six _ _ _ _ _ _).2.2⟩
set_option maxRecDepth 100000 in
set_option maxHeartbeats 6400000 in
theorem node_list (t : Tr) (h3 : t.rep = 3) (l : List Dt) (hdl : l.length ≤ 40) (each : ∀ j (h : j < l.length), RdO t l[j]) (hch : ∀ j (h : j < l.length), chk true t l[j] = 0) : RdN t (.mk false ⟨0, 0, ⟨#[]⟩⟩ l []) := fun r s p xa xc W hr hs hw hp hnd htab hl => by
  have e : tx false t (.mk false ⟨0, 0, ⟨#[]⟩⟩ l []) = 91 :: (lT (txL t l) l.length ++ [93]) := by rw [tx_eq, if_pos ⟨rfl, h3⟩]; rfl
  rw [e] at hw ⊢
  obtain ⟨w0, HW0, HI0⟩ := DbI.start t xa xc hr
  have hrw := HI0.out.lt
  have HC : Hid _ := dlist_of t l hdl each hch r s p xa xc w0 HI0.out.rd hs hw hp (htab.on HI0.out.fr) (hl.rf HI0.out.fr)
  have hsz : W.heap.size + 1 < w0.heap.size := lt_of_block HI0.out.re
  obtain ⟨L, HLn⟩ := hid_name (91 :: (lT (txL t l) l.length ++ [93])).length
  rw [HLn.out] at HC ⊢
  have q : (t.rep == 3) = true := by simp [h3]
  obtain ⟨⟨p0, p1, p2, p3, p4⟩, _⟩ := row_five HI0.out.nd
  clear hr hw hnd htab hl each e h3 hch
  unfold nodeV datumV
  go_enter Tryz.func18, Tryz.ntmps18
  go_upto_region 1 with fail
  rw [HW0.out]
  go_wp2_with fail
  refine Calls.mono HC.out ?_
  rintro e w1 ⟨a1, c1, rfl, hl1, hr1, hf1⟩
  have HI1 : Hid _ := HI0.out.step hr1 hf1
  have HL1 : Hid (LiesD w1 (fun b => w0.heap.size ≤ b) a1 l) := hl1
  clear hr1 hf1 hl1 p0 p1 p2 p3 p4
  obtain ⟨z0, z1, z2, z3, z4, z5⟩ := row_six HI1.out.re
  obtain ⟨y0, y1, y2, y3, y4, y5⟩ := row_six_z HI1.out.re
  go_wp2
  exact bodyPost_ret (v := .agg #[.bool false, .int .i64 0, .int .i64 0, .string ⟨#[]⟩, .slice a1 l.length c1, .slice none 0 0]) (results_cell_row Tryz.results18 _ _ (W.heap.size + 1) 29 #[.bool false, .int .i64 0, .int .i64 0, .string ⟨#[]⟩, .slice a1 l.length c1, .slice none 0 0] (0, 0) _ rfl (HI1.out.six _ _ _ _ _ _).1 Tryz.underlying29 rfl (by kernel_rfl)) rfl ⟨a1, c1, none, 0, rfl, HL1.out.six hsz (by omega) _ _ _ _ _ _, liesD_nil _ _ _, (HI1.out.six _ _ _ _ _ _).2.1, (HI1.out.six _ _ _ _ _ _).2.2⟩
/-- Whatever right datum is read. -/
theorem rd_any : ∀ (n : Nat) (d : Dt), SizeOf.sizeOf d < n → ∀ (t : Tr) (one : Bool), d.In → t.Sm → chk one t d = 0 → (one = true → RdO t d) ∧ (one = false → RdN t d)
  | 0, d, h => absurd h (Nat.not_lt_zero _)
  | n + 1, d, hsz => fun t one hin hsm hck => by
    have hf := d.f_size
    have hl := d.l_size
    have inF := hin.ofF
    have inL := hin.ofL
    have inV := hin.val
    have hlen := hsm.len
    have hat := hsm.at_
    cases kd_of hck with
    | list l h1 h3 hl40 each =>
      subst h1
      refine ⟨fun h => absurd h (by simp), fun _ => node_list t h3 l hl40 (fun j h => ?_) each⟩
      exact (rd_any n l[j] (by have := hl j h; simp only [Dt.l] at this; omega) t true (inL j h) hsm (each j h)).1 rfl
    | none h1 h2 =>
      subst h1
      exact ⟨fun h => absurd h (by simp), fun _ => node_null t h2⟩
    | group f h1 hk hfl each =>
      have hO : RdO t (.mk false ⟨0, 0, ⟨#[]⟩⟩ [] f) := one_group t hk hlen f hfl (fun j h h' => (rd_any n f[j] (by have := hf j h'; simp only [Dt.f] at this; omega) t.sub[j] false (inF j h') (hat j h) (each j h h')).2 rfl)
      refine ⟨fun h => hO, fun h => ?_⟩
      subst h
      refine node_one t _ (fun e => h1 ⟨rfl, e⟩) rfl hO ?_
      rw [tx_eq, if_neg (by simp), if_neg (by simp), if_pos hk]
      exact gT_head _ _ _
    | leaf v h1 hk hv ok =>
      have hO : RdO t (.mk false v [] []) := one_leaf t v hk hv inV ok
      refine ⟨fun h => hO, fun h => ?_⟩
      subst h
      refine node_one t _ (fun e => h1 ⟨rfl, e⟩) rfl hO ?_
      rw [tx_eq, if_neg (by simp), if_neg (by simp), if_neg hk]
      exact vx_head ok
end Go.Proofs.YtmfijliladancaaGreatDoor
