/-
  What page the reference reads is what the program reads: mathematics, without the program.
  page.Peek: what is seen at a glance.
  The reference's PeekOf, walked.
-/
import Derived.Test.YteeheodcejeloaaGreatDoorRBRpI
import Derived.Test.YteeheodcejeloaaGreatDoorRBRefVals
import Derived.Test.YteeheodcejeloaaGreatDoorRBPgD
namespace Go.Proofs.YteeheodcejeloaaGreatDoor
open Go.RowKit
/-- A body as the reference reads it. -/
structure RfAt (lid kind : Int) (mr md : Nat) (s : ByteArray) (t : St) (n1 k1 : Nat) (p : List Nat) (n2 k2 : Nat) (d : List Nat) (b : UInt8) (n3 k3 : Nat) (vs : List Vl) : Prop where
  beg : ∃ r, BegS s.data.toList t r
  pos : 0 < t.e
  rep : LvX (s.extract (stTx t).length s.size) mr t.e.toNat n1 k1 p
  def_ : LvX ((s.extract (stTx t).length s.size).extract (k1 + n1) (s.extract (stTx t).length s.size).size) md t.e.toNat n2 k2 d
  val : BsAt (((s.extract (stTx t).length s.size).extract (k1 + n1) (s.extract (stTx t).length s.size).size).extract (k2 + n2) ((s.extract (stTx t).length s.size).extract (k1 + n1) (s.extract (stTx t).length s.size).size).size) kind (t.e - t.u).toNat b n3 k3 vs
  fin : ((((s.extract (stTx t).length s.size).extract (k1 + n1) (s.extract (stTx t).length s.size).size).extract (k2 + n2) ((s.extract (stTx t).length s.size).extract (k1 + n1) (s.extract (stTx t).length s.size).size).size).extract 1 (((s.extract (stTx t).length s.size).extract (k1 + n1) (s.extract (stTx t).length s.size).size).extract (k2 + n2) ((s.extract (stTx t).length s.size).extract (k1 + n1) (s.extract (stTx t).length s.size).size).size).size).size = k3 + n3
  fit : fitT lid mr md lid (lvI p) (lvI d) vs.length = true
  ok : ∀ j (h : j < vs.length), badV kind vs[j] = false
  told : ofC ⟨lid, none, lvI p, 0, none, lvI d, 0, none, vs, 0⟩ = t
theorem btwI {x m : Int} : btw 0 x m = true ↔ 0 ≤ x ∧ x ≤ m := by
  unfold btw
  simp
theorem badV_kind {kind : Int} {v : Vl} (h : badV kind v = false) : v.k = kind := by
  unfold badV at h
  simp only [Bool.or_eq_false_iff, Bool.not_eq_false', beq_iff_eq] at h
  exact h.1
theorem lvX_len {s : ByteArray} {most many n k : Nat} {p : List Nat} (h : LvX s most many n k p) : p.length = many := runs_lenP _ _ _ _ _ _ (Nat.le_refl _) h.2
theorem rfAt_bd {lid kind : Int} {mr md : Nat} {s : ByteArray} {t : St} {n1 k1 : Nat} {p : List Nat} {n2 k2 : Nat} {d : List Nat} {b : UInt8} {n3 k3 : Nat} {vs : List Vl} (hl : isLfB kind mr md = true) (h : RfAt lid kind mr md s t n1 k1 p n2 k2 d b n3 k3 vs) : BdAt lid kind mr md s t n1 k1 p n2 k2 d b n3 k3 vs := by
  obtain ⟨_, hlen, hr, hd, hc⟩ := fitT_iff.1 h.fit
  have upr : ∀ x ∈ p, x ≤ mr := fun x hx => by
    have := btwI.1 (hr (x : Int) (List.mem_map.2 ⟨x, hx, rfl⟩))
    omega
  have upd : ∀ x ∈ d, x ≤ md := fun x hx => by
    have := btwI.1 (hd (x : Int) (List.mem_map.2 ⟨x, hx, rfl⟩))
    omega
  have hpl := lvX_len h.rep
  have hp0 : 0 < p.length := by have := h.pos; omega
  refine ⟨h.beg, ⟨h.pos, fun hh => ?_⟩, ⟨h.rep.1, h.rep.2, upr⟩, ⟨h.def_.1, h.def_.2, upd⟩, h.val, h.fin, ⟨?_, h.ok⟩, h.told⟩
  · have hm := ofK_mem ⟨lid, none, lvI p, 0, none, lvI d, 0, none, vs, 0⟩ vs.length (Nat.le_refl _)
    rw [ofK_all ⟨lid, none, lvI p, 0, none, lvI d, 0, none, vs, 0⟩, h.told] at hm
    obtain ⟨i, hi, he⟩ := List.getElem_of_mem (hm hh).1
    rw [← he]
    exact badV_kind (h.ok i hi)
  · rw [Bool.and_eq_true]
    refine ⟨hl, fitB_iff.2 ⟨rfl, ?_, ?_, fun x hx => ?_, hd, hc⟩⟩
    · show (0 :: (lvI p).tail).length = (lvI d).length
      rw [← hlen, List.length_cons, List.length_tail, lvI_len]
      omega
    · simp [headB]
    · rcases List.mem_cons.1 hx with rfl | hx
      · exact btwI.2 ⟨by omega, by omega⟩
      · exact hr x (List.mem_of_mem_tail hx)
theorem bdAt_rf {lid kind : Int} {mr md : Nat} {s : ByteArray} {t : St} {n1 k1 : Nat} {p : List Nat} {n2 k2 : Nat} {d : List Nat} {b : UInt8} {n3 k3 : Nat} {vs : List Vl} (h : BdAt lid kind mr md s t n1 k1 p n2 k2 d b n3 k3 vs) : RfAt lid kind mr md s t n1 k1 p n2 k2 d b n3 k3 vs := by
  have hg := h.good.1
  rw [Bool.and_eq_true, fitB_iff] at hg
  obtain ⟨_, _, hlen, _, _, hd, hc⟩ := hg
  have hpl : p.length = t.e.toNat := runs_lenP _ _ _ _ _ _ (Nat.le_refl _) h.rep.rn
  have hp0 : 0 < p.length := by have := h.pgs.1; omega
  refine ⟨h.beg, h.pgs.1, ⟨h.rep.tx, h.rep.rn⟩, ⟨h.def_.tx, h.def_.rn⟩, h.val, h.fin, fitT_iff.2 ⟨rfl, ?_, fun x hx => ?_, hd, hc⟩, h.good.2, h.told⟩
  · have h1 : (0 :: (lvI p).tail).length = (lvI d).length := hlen
    rw [List.length_cons, List.length_tail, lvI_len] at h1
    rw [lvI_len]
    omega
  · obtain ⟨y, hy, rfl⟩ := List.mem_map.1 hx
    have := h.rep.up y hy
    exact btwI.2 ⟨by omega, by omega⟩
/-- What the reference's ReadPageOf answers. -/
def RpoR (lid kind mr md : Int) (s : ByteArray) (e : Ending) (w' : World) : Prop :=
  (∃ ev, NoPg (isLfB kind mr md) s (.int .i64 3) (.int .i64 1) (.int .i64 7) ev ∧ e = .returned (.tuple #[.agg #[.int .i64 0, .slice none 0 0, .slice none 0 0, .slice none 0 0], .int .i64 0, ev])) ∨
  (isLfB kind mr md = true ∧ ∃ n k, PgOk s n k ∧
    ((∃ (p d : List Nat) (c : Cl), IsBd lid kind mr.toNat md.toNat (bodyAt s n k) p d c.vs ∧ c.id = lid ∧ c.rs = lvI p ∧ c.ds = lvI d ∧ e = .returned (.tuple #[.agg #[.int .i64 c.id, .slice c.ra c.rs.length c.rc, .slice c.da c.ds.length c.dc, .slice c.va c.vs.length c.vc], .int .i64 ((k + 5 + n : Nat) : Int), .int .i64 0]) ∧ c.At w') ∨
     ((¬ ∃ p d vs, IsBd lid kind mr.toNat md.toNat (bodyAt s n k) p d vs) ∧ e = .returned (.tuple #[.agg #[.int .i64 0, .slice none 0 0, .slice none 0 0, .slice none 0 0], .int .i64 0, .int .i64 1]))))
theorem boR3_two {lf : Bool} {s : ByteArray} {e : Ending} (hl : lf = true) (h : BoR3 s e) : (∃ c : Int, (c = 1 ∨ c = 7) ∧ NoPg lf s (.int .i64 3) (.int .i64 1) (.int .i64 7) (.int .i64 c) ∧ e = .returned (.tuple #[.string ⟨#[]⟩, .int .i64 0, .int .i64 c])) ∨ (∃ n k, PgOk s n k ∧ e = .returned (.tuple #[.string (bodyAt s n k), .int .i64 ((k + 5 + n : Nat) : Int), .int .i64 0])) := by
  rcases h with ⟨h1, h2⟩ | ⟨h1, h2⟩ | h
  · exact .inl ⟨1, .inl rfl, .inr (.inl ⟨hl, h1, rfl⟩), h2⟩
  · exact .inl ⟨7, .inr rfl, .inr (.inr ⟨hl, h1, rfl⟩), h2⟩
  · exact .inr h
end Go.Proofs.YteeheodcejeloaaGreatDoor

namespace Go.Proofs.YteeheodcejeloaaGreatDoor
open Go.RowKit
/-- What Peek answers. -/
def PkR (kind mr md : Int) (s : ByteArray) (sh tx su : Value) (e : Ending) : Prop :=
  (∃ ev, NoPg (isLfB kind mr md) s sh tx su ev ∧ e = .returned (.tuple #[.agg #[.int .i64 0, .int .i64 0, .bool false, .int .i64 0, .int .i64 0, .string ⟨#[]⟩, .int .i64 0, .int .i64 0, .string ⟨#[]⟩], .int .i64 0, ev])) ∨
  (isLfB kind mr md = true ∧ ∃ n k, PgOk s n k ∧
    ((∃ (t : St) (r : List UInt8), BegS (bodyAt s n k).data.toList t r ∧ PgS kind t ∧ e = .returned (.tuple #[.agg #[.int .i64 t.e, .int .i64 t.u, .bool t.h, .int .i64 t.mn.k, .int .i64 t.mn.n, .string t.mn.s, .int .i64 t.mx.k, .int .i64 t.mx.n, .string t.mx.s], .int .i64 ((k + 5 + n : Nat) : Int), .nilIface])) ∨
     ((¬ ∃ (t : St) (r : List UInt8), BegS (bodyAt s n k).data.toList t r ∧ PgS kind t) ∧ e = .returned (.tuple #[.agg #[.int .i64 0, .int .i64 0, .bool false, .int .i64 0, .int .i64 0, .string ⟨#[]⟩, .int .i64 0, .int .i64 0, .string ⟨#[]⟩], .int .i64 0, tx]))))
set_option maxRecDepth 100000 in
set_option maxHeartbeats 6400000 in
theorem pgPeek_any (lid kind mr md : Int) (pa : Option Addr) (pn pc : Nat) (s : ByteArray) (hsz : s.size ≤ 300000) (W : World) (st kt bt tt ut : TypeId) (sp kp bp tp up : Value)
    (hs : W.cell? ⟨0, 0, none⟩ = some (.iface st sp)) (hk : W.cell? ⟨4, 0, none⟩ = some (.iface kt kp)) (hbd : W.cell? ⟨3, 0, none⟩ = some (.iface bt bp)) (ht : W.cell? ⟨1, 0, none⟩ = some (.iface tt tp)) (hu : W.cell? ⟨2, 0, none⟩ = some (.iface ut up)) :
    Calls Tryz.prog 13 #[.agg #[.int .i64 lid, .int .i64 kind, .int .i64 mr, .int .i64 md, .slice pa pn pc], .string s] W fun e w' => PkR kind mr md s (.iface st sp) (.iface tt tp) (.iface ut up) e ∧ Below W.heap.size W w' := by
  obtain ⟨w0, HW0, HX, HY, HB⟩ := two_boxesP W #[.int .i64 lid, .int .i64 kind, .int .i64 mr, .int .i64 md, .slice pa pn pc] #[.int .i64 0, .int .i64 0, .bool false, .int .i64 0, .int .i64 0, .string ⟨#[]⟩, .int .i64 0, .int .i64 0, .string ⟨#[]⟩] 34 43
  have ck : ∀ {g : Nat} {v : Value}, W.cell? ⟨g, 0, none⟩ = some v → ∀ X, Below W.heap.size W X → X.cell? ⟨g, 0, none⟩ = some v := fun h X hX => (hX.cell (World.block_lt_of_cell? W _ h)).trans h
  have HT : Hid (∀ X, Below W.heap.size W X → X.cell? ⟨1, 0, none⟩ = some (.iface tt tp)) := ck ht
  have HIn : Hid (Calls Tryz.prog 20 #[.agg #[.int .i64 lid, .int .i64 kind, .int .i64 mr, .int .i64 md, .slice pa pn pc], .string s] w0 fun e w' => InsR (isLfB kind mr md) s (.iface st sp) (.iface tt tp) (.iface ut up) e ∧ Below w0.heap.size w0 w') := pgIns_any lid kind mr md pa pn pc s hsz w0 st kt bt tt ut sp kp bp tp up (ck hs w0 HB.out) (ck hk w0 HB.out) (ck hbd w0 HB.out) (ck ht w0 HB.out) (ck hu w0 HB.out)
  clear ck hs hk hbd ht hu
  obtain ⟨⟨p0, p1, p2, p3, p4⟩, _⟩ := row_five HX.out
  go_enter Tryz.func13, Tryz.ntmps13
  go_upto_region 1 with fail
  rw [HW0.out]
  go_wp2_with fail
  refine Calls.mono HIn.out ?_
  rintro e w1 ⟨hx, hb1⟩
  have HB1 : Hid (Below W.heap.size W w1) := HB.out.trans (hb1.mono HB.out.size)
  have HX1 : Hid (w1.heap[W.heap.size]? = some (.cells #[.int .i64 lid, .int .i64 kind, .int .i64 mr, .int .i64 md, .slice pa pn pc] 34 (0, 0))) := blk_keep hb1 HX.out
  have HY1 : Hid (w1.heap[W.heap.size + 1]? = some (.cells #[.int .i64 0, .int .i64 0, .bool false, .int .i64 0, .int .i64 0, .string ⟨#[]⟩, .int .i64 0, .int .i64 0, .string ⟨#[]⟩] 43 (0, 0))) := blk_keep hb1 HY.out
  clear hb1 HX HY HB HW0 HIn p0 p1 p2 p3 p4
  obtain ⟨⟨k0, k1, k2, k3, k4, k5, k6, k7, k8⟩, m0, m1, m2, m3, m4, m5, m6, m7, m8⟩ := row_nine HY1.out
  rcases insR_two hx with ⟨ev, hno, rfl⟩ | ⟨hlf, n, k, hok, rfl⟩
  · obtain ⟨et, ep, rfl⟩ := noPg_iface hno
    have HNo : Hid (PkR kind mr md s (.iface st sp) (.iface tt tp) (.iface ut up) (.returned (.tuple #[.agg #[.int .i64 0, .int .i64 0, .bool false, .int .i64 0, .int .i64 0, .string ⟨#[]⟩, .int .i64 0, .int .i64 0, .string ⟨#[]⟩], .int .i64 0, .iface et ep]))) := .inl ⟨_, hno, rfl⟩
    clear hno hx
    go_wp2
    exact bodyPost_ret (v := .tuple #[.agg #[.int .i64 0, .int .i64 0, .bool false, .int .i64 0, .int .i64 0, .string ⟨#[]⟩, .int .i64 0, .int .i64 0, .string ⟨#[]⟩], .int .i64 0, .iface et ep]) (results_ctt Tryz.results13 _ _ (W.heap.size + 1) 43 #[.int .i64 0, .int .i64 0, .bool false, .int .i64 0, .int .i64 0, .string ⟨#[]⟩, .int .i64 0, .int .i64 0, .string ⟨#[]⟩] (0, 0) _ _ _ rfl rfl rfl (set9_row HY1.out _ _ _ _ _ _ _ _ _) Tryz.underlying43 rfl (by kernel_rfl)) rfl ⟨HNo.out, set9_below HB1.out (by omega) _ _ _ _ _ _ _ _ _⟩
  have HLf : Hid (isLfB kind mr md = true) := hlf
  have HOk : Hid (PgOk s n k) := hok
  obtain ⟨u, HU⟩ : ∃ u, Hid (k + 5 + n = u) := ⟨_, rfl⟩
  obtain ⟨bd, HBy⟩ : ∃ b, Hid (bodyAt s n k = b) := ⟨_, rfl⟩
  have hbs : bd.size ≤ 1000000 := by rw [← HBy.out, ByteArray.size_extract]; omega
  rw [HU.out, HBy.out]
  clear hlf hok hx k0 k1 k2 k3 k4 k5 k6 k7 k8 m0 m1 m2 m3 m4 m5 m6 m7 m8
  obtain ⟨⟨p0, p1, p2, p3, p4⟩, _⟩ := row_five HX1.out
  go_wp2_with fail
  refine Calls.mono (readStats_any lid kind mr md pa pn pc bd hbs w1 tt tp (HT.out w1 HB1.out)) ?_
  rintro e w2 ⟨hx, hb2⟩
  have HB2 : Hid (Below W.heap.size W w2) := HB1.out.trans (hb2.mono HB1.out.size)
  have HY2 : Hid (w2.heap[W.heap.size + 1]? = some (.cells #[.int .i64 0, .int .i64 0, .bool false, .int .i64 0, .int .i64 0, .string ⟨#[]⟩, .int .i64 0, .int .i64 0, .string ⟨#[]⟩] 43 (0, 0))) := blk_keep hb2 HY1.out
  clear hb2 HX1 HY1 HB1 p0 p1 p2 p3 p4
  obtain ⟨⟨k0, k1, k2, k3, k4, k5, k6, k7, k8⟩, m0, m1, m2, m3, m4, m5, m6, m7, m8⟩ := row_nine HY2.out
  rcases hx with ⟨t, r, hbg, hps, rfl⟩ | ⟨hno, rfl⟩
  · have HG : Hid (BegS (bodyAt s n k).data.toList t r ∧ PgS kind t) := (by show _ ∧ _; rw [HBy.out]; exact ⟨hbg, hps⟩)
    obtain ⟨w3, HW3⟩ : ∃ w, Hid (set9 w2 (W.heap.size + 1) (.int .i64 t.e) (.int .i64 t.u) (.bool t.h) (.int .i64 t.mn.k) (.int .i64 t.mn.n) (.string t.mn.s) (.int .i64 t.mx.k) (.int .i64 t.mx.n) (.string t.mx.s) = w) := ⟨_, rfl⟩
    have HY3 : Hid (w3.heap[W.heap.size + 1]? = some (.cells #[.int .i64 t.e, .int .i64 t.u, .bool t.h, .int .i64 t.mn.k, .int .i64 t.mn.n, .string t.mn.s, .int .i64 t.mx.k, .int .i64 t.mx.n, .string t.mx.s] 43 (0, 0))) := (by show _ = _; rw [← HW3.out]; exact set9_row HY2.out _ _ _ _ _ _ _ _ _)
    have HB3 : Hid (Below W.heap.size W w3) := (by show Below _ _ _; rw [← HW3.out]; exact set9_below HB2.out (by omega) _ _ _ _ _ _ _ _ _)
    clear hbg hps
    unfold St.val St.cs
    go_upto_region 5 with fail
    unfold set9 at HW3
    rw [HW3.out]
    clear HW3 HY2 HB2 k0 k1 k2 k3 k4 k5 k6 k7 k8 m0 m1 m2 m3 m4 m5 m6 m7 m8
    obtain ⟨⟨k0, k1, k2, k3, k4, k5, k6, k7, k8⟩, m0, m1, m2, m3, m4, m5, m6, m7, m8⟩ := row_nine HY3.out
    go_wp2
    exact bodyPost_ret (v := .tuple #[.agg #[.int .i64 t.e, .int .i64 t.u, .bool t.h, .int .i64 t.mn.k, .int .i64 t.mn.n, .string t.mn.s, .int .i64 t.mx.k, .int .i64 t.mx.n, .string t.mx.s], .int .i64 ((u : Nat) : Int), .nilIface]) (results_ctt Tryz.results13 _ _ (W.heap.size + 1) 43 #[.int .i64 t.e, .int .i64 t.u, .bool t.h, .int .i64 t.mn.k, .int .i64 t.mn.n, .string t.mn.s, .int .i64 t.mx.k, .int .i64 t.mx.n, .string t.mx.s] (0, 0) _ _ _ rfl rfl rfl (set9_row HY3.out _ _ _ _ _ _ _ _ _) Tryz.underlying43 rfl (by kernel_rfl)) rfl ⟨.inr ⟨HLf.out, n, k, HOk.out, .inl ⟨t, r, HG.out.1, HG.out.2, by rw [HU.out]⟩⟩, set9_below HB3.out (by omega) _ _ _ _ _ _ _ _ _⟩
  · have HNo : Hid (¬ ∃ (t : St) (r : List UInt8), BegS (bodyAt s n k).data.toList t r ∧ PgS kind t) := (by show ¬ _; rw [HBy.out]; exact hno)
    clear hno
    unfold St.val St.cs St.zero Vl.zero
    go_wp2
    exact bodyPost_ret (v := .tuple #[.agg #[.int .i64 0, .int .i64 0, .bool false, .int .i64 0, .int .i64 0, .string ⟨#[]⟩, .int .i64 0, .int .i64 0, .string ⟨#[]⟩], .int .i64 0, .iface tt tp]) (results_ctt Tryz.results13 _ _ (W.heap.size + 1) 43 #[.int .i64 0, .int .i64 0, .bool false, .int .i64 0, .int .i64 0, .string ⟨#[]⟩, .int .i64 0, .int .i64 0, .string ⟨#[]⟩] (0, 0) _ _ _ rfl rfl rfl (set9_row (set9_row HY2.out _ _ _ _ _ _ _ _ _) _ _ _ _ _ _ _ _ _) Tryz.underlying43 rfl (by kernel_rfl)) rfl ⟨.inr ⟨HLf.out, n, k, HOk.out, .inr ⟨HNo.out, rfl⟩⟩, set9_below (set9_below HB2.out (by omega) _ _ _ _ _ _ _ _ _) (by omega) _ _ _ _ _ _ _ _ _⟩
end Go.Proofs.YteeheodcejeloaaGreatDoor

namespace Go.Proofs.YteeheodcejeloaaGreatDoor
open Go.RowKit
/-- What PeekOf answers. -/
def PkoR (kind mr md : Int) (s : ByteArray) (e : Ending) : Prop :=
  (∃ ev, NoPg (isLfB kind mr md) s (.int .i64 3) (.int .i64 1) (.int .i64 7) ev ∧ e = .returned (.tuple #[.agg #[.int .i64 0, .int .i64 0, .bool false, .int .i64 0, .int .i64 0, .string ⟨#[]⟩, .int .i64 0, .int .i64 0, .string ⟨#[]⟩], .int .i64 0, ev])) ∨
  (isLfB kind mr md = true ∧ ∃ n k, PgOk s n k ∧
    ((∃ (t : St) (r : List UInt8), BegS (bodyAt s n k).data.toList t r ∧ PgS kind t ∧ e = .returned (.tuple #[.agg #[.int .i64 t.e, .int .i64 t.u, .bool t.h, .int .i64 t.mn.k, .int .i64 t.mn.n, .string t.mn.s, .int .i64 t.mx.k, .int .i64 t.mx.n, .string t.mx.s], .int .i64 ((k + 5 + n : Nat) : Int), .int .i64 0])) ∨
     ((¬ ∃ (t : St) (r : List UInt8), BegS (bodyAt s n k).data.toList t r ∧ PgS kind t) ∧ e = .returned (.tuple #[.agg #[.int .i64 0, .int .i64 0, .bool false, .int .i64 0, .int .i64 0, .string ⟨#[]⟩, .int .i64 0, .int .i64 0, .string ⟨#[]⟩], .int .i64 0, .int .i64 1]))))
theorem stTx_posF (t : St) : 0 < (stTx t).length := by
  unfold stTx
  rw [List.length_append, List.length_append]
  have := Um.uv_pos t.e.toNat
  omega
set_option maxRecDepth 100000 in
set_option maxHeartbeats 6400000 in
theorem peekOf_any (lid kind mr md : Int) (pa : Option Addr) (pn pc : Nat) (s : ByteArray) (hsz : s.size ≤ 3000) (W : World) :
    Calls Tryz.prog 14 #[.agg #[.int .i64 lid, .int .i64 kind, .int .i64 mr, .int .i64 md, .slice pa pn pc], .string s] W fun e w' => PkoR kind mr md s e ∧ Below W.heap.size W w' := by
  obtain ⟨w0, HW0, HX, HY, HB⟩ := two_boxesP W #[.int .i64 lid, .int .i64 kind, .int .i64 mr, .int .i64 md, .slice pa pn pc] #[.int .i64 0, .int .i64 0, .bool false, .int .i64 0, .int .i64 0, .string ⟨#[]⟩, .int .i64 0, .int .i64 0, .string ⟨#[]⟩] 24 46
  obtain ⟨⟨p0, p1, p2, p3, p4⟩, _⟩ := row_five HX.out
  go_enter Tryz.func14, Tryz.ntmps14
  go_upto_region 1 with fail
  rw [HW0.out]
  go_wp2_with fail
  refine Calls.mono (isLeafR_any lid kind mr md pa pn pc w0) ?_
  obtain ⟨lf, HLfb⟩ : ∃ b, Hid (isLfB kind mr md = b) := ⟨_, rfl⟩
  rw [HLfb.out]
  rintro e' w1 ⟨rfl, hb1⟩
  have HB1 : Hid (Below W.heap.size W w1) := HB.out.trans (hb1.mono HB.out.size)
  have HX1 : Hid (w1.heap[W.heap.size]? = some (.cells #[.int .i64 lid, .int .i64 kind, .int .i64 mr, .int .i64 md, .slice pa pn pc] 24 (0, 0))) := blk_keep hb1 HX.out
  have HY1 : Hid (w1.heap[W.heap.size + 1]? = some (.cells #[.int .i64 0, .int .i64 0, .bool false, .int .i64 0, .int .i64 0, .string ⟨#[]⟩, .int .i64 0, .int .i64 0, .string ⟨#[]⟩] 46 (0, 0))) := blk_keep hb1 HY.out
  clear hb1 HX HY HB HW0 p0 p1 p2 p3 p4
  obtain ⟨⟨r0, r1, r2, r3, r4, r5, r6, r7, r8⟩, f0, f1, f2, f3, f4, f5, f6, f7, f8⟩ := row_nine HY1.out
  cases lf with
  | false =>
    have HNp : Hid (NoPg (isLfB kind mr md) s (.int .i64 3) (.int .i64 1) (.int .i64 7) (.int .i64 3)) := .inl ⟨HLfb.out, rfl⟩
    go_wp2
    exact bodyPost_ret (v := .tuple #[.agg #[.int .i64 0, .int .i64 0, .bool false, .int .i64 0, .int .i64 0, .string ⟨#[]⟩, .int .i64 0, .int .i64 0, .string ⟨#[]⟩], .int .i64 0, .int .i64 3]) (results_ctt Tryz.results14 _ _ (W.heap.size + 1) 46 #[.int .i64 0, .int .i64 0, .bool false, .int .i64 0, .int .i64 0, .string ⟨#[]⟩, .int .i64 0, .int .i64 0, .string ⟨#[]⟩] (0, 0) _ _ _ rfl rfl rfl (set9_row HY1.out _ _ _ _ _ _ _ _ _) Tryz.underlying46 rfl (by kernel_rfl)) rfl ⟨.inl ⟨_, HNp.out, rfl⟩, set9_below HB1.out (by omega) _ _ _ _ _ _ _ _ _⟩
  | true =>
    go_wp2_with fail
    refine Calls.mono (bodyOfR_any s w1 hsz) ?_
    rintro e' wq ⟨hx, hw⟩
    obtain rfl := hw.symm
    rcases boR3_two HLfb.out hx with ⟨c, hc, hnp, rfl⟩ | ⟨n, k, hok, rfl⟩
    · have HNp : Hid (NoPg (isLfB kind mr md) s (.int .i64 3) (.int .i64 1) (.int .i64 7) (.int .i64 c)) := hnp
      have q1 : decide ((0 : Int) < c) = true := by simp; omega
      clear hnp hx hc
      go_wp2
      exact bodyPost_ret (v := .tuple #[.agg #[.int .i64 0, .int .i64 0, .bool false, .int .i64 0, .int .i64 0, .string ⟨#[]⟩, .int .i64 0, .int .i64 0, .string ⟨#[]⟩], .int .i64 0, .int .i64 c]) (results_ctt Tryz.results14 _ _ (W.heap.size + 1) 46 #[.int .i64 0, .int .i64 0, .bool false, .int .i64 0, .int .i64 0, .string ⟨#[]⟩, .int .i64 0, .int .i64 0, .string ⟨#[]⟩] (0, 0) _ _ _ rfl rfl rfl (set9_row HY1.out _ _ _ _ _ _ _ _ _) Tryz.underlying46 rfl (by kernel_rfl)) rfl ⟨.inl ⟨_, HNp.out, rfl⟩, set9_below HB1.out (by omega) _ _ _ _ _ _ _ _ _⟩
    have HOk : Hid (PgOk s n k) := hok
    obtain ⟨us, HU⟩ : ∃ u, Hid (k + 5 + n = u) := ⟨_, rfl⟩
    obtain ⟨bd, HBy⟩ : ∃ b, Hid (bodyAt s n k = b) := ⟨_, rfl⟩
    have hbs : bd.size ≤ 3000 := by rw [← HBy.out, ByteArray.size_extract]; omega
    rw [HU.out, HBy.out]
    clear hok hx r0 r1 r2 r3 r4 r5 r6 r7 r8 f0 f1 f2 f3 f4 f5 f6 f7 f8
    go_wp2_with fail
    refine Calls.mono (readStatsOf_any bd hbs w1) ?_
    rintro e' w2 ⟨hx, hb2⟩
    have HB2 : Hid (Below W.heap.size W w2) := HB1.out.trans (hb2.mono HB1.out.size)
    have HX2 : Hid (w2.heap[W.heap.size]? = some (.cells #[.int .i64 lid, .int .i64 kind, .int .i64 mr, .int .i64 md, .slice pa pn pc] 24 (0, 0))) := blk_keep hb2 HX1.out
    have HY2 : Hid (w2.heap[W.heap.size + 1]? = some (.cells #[.int .i64 0, .int .i64 0, .bool false, .int .i64 0, .int .i64 0, .string ⟨#[]⟩, .int .i64 0, .int .i64 0, .string ⟨#[]⟩] 46 (0, 0))) := blk_keep hb2 HY1.out
    clear hb2 HX1 HY1 HB1
    rcases hx with ⟨t, r, hbg, rfl⟩ | ⟨hno, rfl⟩
    rotate_left
    · have HNo : Hid (¬ ∃ (t : St) (r : List UInt8), BegS (bodyAt s n k).data.toList t r ∧ PgS kind t) := (by
        show ¬ _
        rw [HBy.out]
        exact fun ⟨t, r, h, _⟩ => hno ⟨t, r, h⟩)
      obtain ⟨w3, HW3, HS3, HB3'⟩ := boxed1 w2 #[.int .i64 0, .int .i64 0, .bool false, .int .i64 0, .int .i64 0, .string ⟨#[]⟩, .int .i64 0, .int .i64 0, .string ⟨#[]⟩] 46
      have HY3 : Hid (w3.heap[W.heap.size + 1]? = some (.cells #[.int .i64 0, .int .i64 0, .bool false, .int .i64 0, .int .i64 0, .string ⟨#[]⟩, .int .i64 0, .int .i64 0, .string ⟨#[]⟩] 46 (0, 0))) := blk_keep HB3'.out HY2.out
      have HB3 : Hid (Below W.heap.size W w3) := HB2.out.trans (HB3'.out.mono HB2.out.size)
      clear hno
      go_upto_region 7 with fail
      rw [HW3.out]
      obtain ⟨⟨r0, r1, r2, r3, r4, r5, r6, r7, r8⟩, f0, f1, f2, f3, f4, f5, f6, f7, f8⟩ := row_nine HY3.out
      go_wp2
      exact bodyPost_ret (v := .tuple #[.agg #[.int .i64 0, .int .i64 0, .bool false, .int .i64 0, .int .i64 0, .string ⟨#[]⟩, .int .i64 0, .int .i64 0, .string ⟨#[]⟩], .int .i64 0, .int .i64 1]) (results_ctt Tryz.results14 _ _ (W.heap.size + 1) 46 #[.int .i64 0, .int .i64 0, .bool false, .int .i64 0, .int .i64 0, .string ⟨#[]⟩, .int .i64 0, .int .i64 0, .string ⟨#[]⟩] (0, 0) _ _ _ rfl rfl rfl (set9_row HY3.out _ _ _ _ _ _ _ _ _) Tryz.underlying46 rfl (by kernel_rfl)) rfl ⟨.inr ⟨HLfb.out, n, k, HOk.out, .inr ⟨HNo.out, rfl⟩⟩, set9_below HB3.out (by omega) _ _ _ _ _ _ _ _ _⟩
    have HBg : Hid (BegS bd.data.toList t r) := hbg
    obtain ⟨z, HZ⟩ : ∃ z, Hid ((stTx t).length = z) := ⟨_, rfl⟩
    have hz0 : 0 < z := by rw [← HZ.out]; exact stTx_posF _
    have qz : ((z : Int) == 0) = false := by simp; omega
    have hte : 0 ≤ t.e := hbg.1.e.1
    rw [HZ.out]
    clear hbg
    obtain ⟨w3, HW3, HS3, HB3'⟩ := boxed1 w2 #[.int .i64 t.e, .int .i64 t.u, .bool t.h, .int .i64 t.mn.k, .int .i64 t.mn.n, .string t.mn.s, .int .i64 t.mx.k, .int .i64 t.mx.n, .string t.mx.s] 46
    have HY3 : Hid (w3.heap[W.heap.size + 1]? = some (.cells #[.int .i64 0, .int .i64 0, .bool false, .int .i64 0, .int .i64 0, .string ⟨#[]⟩, .int .i64 0, .int .i64 0, .string ⟨#[]⟩] 46 (0, 0))) := blk_keep HB3'.out HY2.out
    have HX3 : Hid (w3.heap[W.heap.size]? = some (.cells #[.int .i64 lid, .int .i64 kind, .int .i64 mr, .int .i64 md, .slice pa pn pc] 24 (0, 0))) := blk_keep HB3'.out HX2.out
    have HB3 : Hid (Below W.heap.size W w3) := HB2.out.trans (HB3'.out.mono HB2.out.size)
    clear HB3' HY2 HX2 HB2
    go_upto_region 7 with fail
    rw [HW3.out]
    clear HW3
    generalize w2.heap.size = T at HS3 ⊢
    obtain ⟨⟨p0, p1, p2, p3, p4⟩, _⟩ := row_five HX3.out
    obtain ⟨⟨r0, r1, r2, r3, r4, r5, r6, r7, r8⟩, f0, f1, f2, f3, f4, f5, f6, f7, f8⟩ := row_nine HY3.out
    obtain ⟨⟨t0, t1, t2, t3, t4, t5, t6, t7, t8⟩, _⟩ := row_nine HS3.out
    have HUn : Hid (∀ t' r', BegS (bodyAt s n k).data.toList t' r' → t' = t) := fun t' r' h => (by rw [HBy.out] at h; exact begS_fn HBg.out h)
    by_cases he0 : t.e = 0
    · have qe : (t.e == 0) = true := by simp [he0]
      have HNo : Hid (¬ ∃ (t : St) (r : List UInt8), BegS (bodyAt s n k).data.toList t r ∧ PgS kind t) := fun ⟨t', r', h1, h2⟩ => (by
        obtain rfl := HUn.out t' r' h1
        have := h2.1
        omega)
      clear he0
      go_wp2
      exact bodyPost_ret (v := .tuple #[.agg #[.int .i64 0, .int .i64 0, .bool false, .int .i64 0, .int .i64 0, .string ⟨#[]⟩, .int .i64 0, .int .i64 0, .string ⟨#[]⟩], .int .i64 0, .int .i64 1]) (results_ctt Tryz.results14 _ _ (W.heap.size + 1) 46 #[.int .i64 0, .int .i64 0, .bool false, .int .i64 0, .int .i64 0, .string ⟨#[]⟩, .int .i64 0, .int .i64 0, .string ⟨#[]⟩] (0, 0) _ _ _ rfl rfl rfl (set9_row HY3.out _ _ _ _ _ _ _ _ _) Tryz.underlying46 rfl (by kernel_rfl)) rfl ⟨.inr ⟨HLfb.out, n, k, HOk.out, .inr ⟨HNo.out, rfl⟩⟩, set9_below HB3.out (by omega) _ _ _ _ _ _ _ _ _⟩
    have qe : (t.e == 0) = false := by simpa using he0
    obtain ⟨th, HTh⟩ : ∃ b, Hid (t.h = b) := ⟨_, rfl⟩
    rw [HTh.out] at t2
    cases th with
    | true =>
      by_cases hk : t.mn.k = kind
      · have q2 : (t.mn.k != kind) = false := by simp [hk]
        have HG : Hid (BegS (bodyAt s n k).data.toList t r ∧ PgS kind t) := (by show _ ∧ _; rw [HBy.out]; exact ⟨HBg.out, by omega, fun _ => hk⟩)
        clear hk he0
        go_wp2
        exact bodyPost_ret (v := .tuple #[.agg #[.int .i64 t.e, .int .i64 t.u, .bool true, .int .i64 t.mn.k, .int .i64 t.mn.n, .string t.mn.s, .int .i64 t.mx.k, .int .i64 t.mx.n, .string t.mx.s], .int .i64 ((us : Nat) : Int), .int .i64 0]) (results_ctt Tryz.results14 _ _ (W.heap.size + 1) 46 #[.int .i64 t.e, .int .i64 t.u, .bool true, .int .i64 t.mn.k, .int .i64 t.mn.n, .string t.mn.s, .int .i64 t.mx.k, .int .i64 t.mx.n, .string t.mx.s] (0, 0) _ _ _ rfl rfl rfl (set9_row HY3.out _ _ _ _ _ _ _ _ _) Tryz.underlying46 rfl (by kernel_rfl)) rfl ⟨.inr ⟨HLfb.out, n, k, HOk.out, .inl ⟨t, r, HG.out.1, HG.out.2, by rw [HU.out, HTh.out]⟩⟩, set9_below HB3.out (by omega) _ _ _ _ _ _ _ _ _⟩
      · have q2 : (t.mn.k != kind) = true := by simp [hk]
        have HNo : Hid (¬ ∃ (t : St) (r : List UInt8), BegS (bodyAt s n k).data.toList t r ∧ PgS kind t) := fun ⟨t', r', h1, h2⟩ => (by
          obtain rfl := HUn.out t' r' h1
          exact hk (h2.2 HTh.out))
        clear hk he0
        go_wp2
        exact bodyPost_ret (v := .tuple #[.agg #[.int .i64 0, .int .i64 0, .bool false, .int .i64 0, .int .i64 0, .string ⟨#[]⟩, .int .i64 0, .int .i64 0, .string ⟨#[]⟩], .int .i64 0, .int .i64 1]) (results_ctt Tryz.results14 _ _ (W.heap.size + 1) 46 #[.int .i64 0, .int .i64 0, .bool false, .int .i64 0, .int .i64 0, .string ⟨#[]⟩, .int .i64 0, .int .i64 0, .string ⟨#[]⟩] (0, 0) _ _ _ rfl rfl rfl (set9_row HY3.out _ _ _ _ _ _ _ _ _) Tryz.underlying46 rfl (by kernel_rfl)) rfl ⟨.inr ⟨HLfb.out, n, k, HOk.out, .inr ⟨HNo.out, rfl⟩⟩, set9_below HB3.out (by omega) _ _ _ _ _ _ _ _ _⟩
    | false =>
      have HG : Hid (BegS (bodyAt s n k).data.toList t r ∧ PgS kind t) := (by show _ ∧ _; rw [HBy.out]; exact ⟨HBg.out, by omega, fun h => by rw [HTh.out] at h; cases h⟩)
      clear he0
      go_wp2
      exact bodyPost_ret (v := .tuple #[.agg #[.int .i64 t.e, .int .i64 t.u, .bool false, .int .i64 t.mn.k, .int .i64 t.mn.n, .string t.mn.s, .int .i64 t.mx.k, .int .i64 t.mx.n, .string t.mx.s], .int .i64 ((us : Nat) : Int), .int .i64 0]) (results_ctt Tryz.results14 _ _ (W.heap.size + 1) 46 #[.int .i64 t.e, .int .i64 t.u, .bool false, .int .i64 t.mn.k, .int .i64 t.mn.n, .string t.mn.s, .int .i64 t.mx.k, .int .i64 t.mx.n, .string t.mx.s] (0, 0) _ _ _ rfl rfl rfl (set9_row HY3.out _ _ _ _ _ _ _ _ _) Tryz.underlying46 rfl (by kernel_rfl)) rfl ⟨.inr ⟨HLfb.out, n, k, HOk.out, .inl ⟨t, r, HG.out.1, HG.out.2, by rw [HU.out, HTh.out]⟩⟩, set9_below HB3.out (by omega) _ _ _ _ _ _ _ _ _⟩
end Go.Proofs.YteeheodcejeloaaGreatDoor
