/-
  page.readBody: what column a page's body is.
  page.readBody, its walk.
  page.Read and page.Peek: what page a text begins with.
  The reference's readers of a page: its frame, its levels.
  The reference's ReadStatsOf: what stats a text begins with.
  The reference's ReadStatsOf, its walk.
-/
import Derived.Test.YteeheodcejeloaaGreatDoorRRpB
import Derived.Test.YteeheodcejeloaaGreatDoorRRpE
import Derived.Test.YteeheodcejeloaaGreatDoorRBRsC
import Derived.Test.YteeheodcejeloaaGreatDoorRRpH
import Derived.Test.YteeheodcejeloaaGreatDoorRBRd
import Derived.Test.YteeheodcejeloaaGreatDoorRBReadPart
import Derived.Test.YteeheodcejeloaaGreatDoorRBBase
import Derived.Test.YteeheodcejeloaaGreatDoorRBBest
import Derived.Test.YteeheodcejeloaaGreatDoorRBTree
import Derived.LoopN
namespace Go.Proofs.YteeheodcejeloaaGreatDoor
open Go.RowKit
theorem isBs_len {kd code : Int} {l : List UInt8} {n : Nat} {vs : List Vl} (h : IsBs kd code l n vs) : vs.length = n := by
  unfold IsBs at h
  split at h
  · exact h.1
  split at h
  · obtain ⟨us, e, ps, _, h2, h3⟩ := h
    rw [← h3.len.1]
    exact Um.runs_length h2
  split at h
  · obtain ⟨xs, _, h2, h3, _⟩ := h
    rw [h3, kvs_len, h2]
  · obtain ⟨ss, h1, rfl⟩ := h
    rw [pvs_len, (Um.rdp_some _ _ _ _ h1).1]
theorem isBs_low {kd code : Int} {l : List UInt8} {n : Nat} {vs : List Vl} (h : IsBs kd code l n vs) : ∀ v ∈ vs, v.Low := by
  unfold IsBs at h
  split at h
  · exact fun v hv => (h.2.1.2 v hv).2.2.1.1
  split at h
  · obtain ⟨us, e, ps, ⟨m, k, z, j, _, _, _, _, _, _, h1, _⟩, h2, h3⟩ := h
    intro v hv
    obtain ⟨i, hi, rfl⟩ := List.getElem_of_mem hv
    obtain ⟨p, _, hp⟩ := h3.at_ i hi
    exact (h1.2.1.2 _ (List.mem_of_getElem? hp)).2.2.1.1
  split at h
  · obtain ⟨xs, _, _, h3, h4, _⟩ := h
    subst h3
    intro v hv
    unfold kvs at hv
    obtain ⟨x, hx, rfl⟩ := List.mem_map.1 hv
    exact (h4 x hx).1
  · obtain ⟨ss, h1, rfl⟩ := h
    intro v hv
    unfold pvs at hv
    obtain ⟨x, hx, rfl⟩ := List.mem_map.1 hv
    show (-9223372036854775808 : Int) ≤ 0
    omega
theorem LvAt.fn {s : ByteArray} {most many n k n' k' : Nat} {p p' : List Nat} (h : LvAt s most many n k p) (h' : LvAt s most many n' k' p') : n = n' ∧ k = k' ∧ p = p' := by
  obtain ⟨rfl, rfl⟩ := h.tx.fn h'.tx
  have h1 := h.rn
  rw [h'.rn] at h1
  cases h1
  exact ⟨rfl, rfl, rfl⟩
theorem BsAt.fn {s : ByteArray} {kd : Int} {many n k n' k' : Nat} {b b' : UInt8} {vs vs' : List Vl} (h : BsAt s kd many b n k vs) (h' : BsAt s kd many b' n' k' vs') : b = b' ∧ n = n' ∧ k = k' ∧ vs = vs' := by
  obtain ⟨r, h1⟩ := h.code
  obtain ⟨r', h2⟩ := h'.code
  rw [h1] at h2
  cases h2
  obtain ⟨rfl, rfl⟩ := h.tx.fn h'.tx
  exact ⟨rfl, rfl, rfl, isBs_fn h.is h'.is⟩
/-- Levels, as ints. -/
def lvI (p : List Nat) : List Int := p.map fun n : Nat => (n : Int)
/-- What column a body is. -/
structure BdAt (lid kind : Int) (mr md : Nat) (s : ByteArray) (t : St) (n1 k1 : Nat) (p : List Nat) (n2 k2 : Nat) (d : List Nat) (b : UInt8) (n3 k3 : Nat) (vs : List Vl) : Prop where
  beg : ∃ r, BegS s.data.toList t r
  pgs : PgS kind t
  rep : LvAt (s.extract (stTx t).length s.size) mr t.e.toNat n1 k1 p
  def_ : LvAt ((s.extract (stTx t).length s.size).extract (k1 + n1) (s.extract (stTx t).length s.size).size) md t.e.toNat n2 k2 d
  val : BsAt (((s.extract (stTx t).length s.size).extract (k1 + n1) (s.extract (stTx t).length s.size).size).extract (k2 + n2) ((s.extract (stTx t).length s.size).extract (k1 + n1) (s.extract (stTx t).length s.size).size).size) kind (t.e - t.u).toNat b n3 k3 vs
  fin : ((((s.extract (stTx t).length s.size).extract (k1 + n1) (s.extract (stTx t).length s.size).size).extract (k2 + n2) ((s.extract (stTx t).length s.size).extract (k1 + n1) (s.extract (stTx t).length s.size).size).size).extract 1 (((s.extract (stTx t).length s.size).extract (k1 + n1) (s.extract (stTx t).length s.size).size).extract (k2 + n2) ((s.extract (stTx t).length s.size).extract (k1 + n1) (s.extract (stTx t).length s.size).size).size).size).size = k3 + n3
  good : GoodC lid kind mr md ⟨lid, none, 0 :: (lvI p).tail, 0, none, lvI d, 0, none, vs, 0⟩
  told : ofC ⟨lid, none, lvI p, 0, none, lvI d, 0, none, vs, 0⟩ = t
/-- A body is a column. -/
def IsBd (lid kind : Int) (mr md : Nat) (s : ByteArray) (p d : List Nat) (vs : List Vl) : Prop := ∃ t n1 k1 n2 k2 b n3 k3, BdAt lid kind mr md s t n1 k1 p n2 k2 d b n3 k3 vs
theorem isBd_fn {lid kind : Int} {mr md : Nat} {s : ByteArray} {p d p' d' : List Nat} {vs vs' : List Vl} (h : IsBd lid kind mr md s p d vs) (h' : IsBd lid kind mr md s p' d' vs') : p = p' ∧ d = d' ∧ vs = vs' := by
  obtain ⟨t, n1, k1, n2, k2, b, n3, k3, h⟩ := h
  obtain ⟨t', n1', k1', n2', k2', b', n3', k3', h'⟩ := h'
  obtain ⟨r, hr⟩ := h.beg
  obtain ⟨r', hr'⟩ := h'.beg
  obtain rfl := begS_fn hr hr'
  obtain ⟨rfl, rfl, rfl⟩ := h.rep.fn h'.rep
  obtain ⟨rfl, rfl, rfl⟩ := h.def_.fn h'.def_
  obtain ⟨_, _, _, rfl⟩ := h.val.fn h'.val
  exact ⟨rfl, rfl, rfl⟩
/-- What readBody's boxes hold. -/
structure RbI (W : World) (lid kind : Int) (mr md : Nat) (pa : Option Addr) (pn pc : Nat) (e u : Nat) (th : Bool) (tn tx : Vl) (T : Nat) (s : ByteArray) (f : Bool) (vr vd vv : Value) (X : World) : Prop where
  lf : X.heap[W.heap.size]? = some (.cells #[.int .i64 lid, .int .i64 kind, .int .i64 (mr : Nat), .int .i64 (md : Nat), .slice pa pn pc] 34 (0, 0))
  re : X.heap[W.heap.size + 1]? = some (.cells #[.int .i64 0, .slice none 0 0, .slice none 0 0, .slice none 0 0] 29 (0, 0))
  st : X.heap[T]? = some (.cells #[.int .i64 (e : Nat), .int .i64 (u : Nat), .bool th, .int .i64 tn.k, .int .i64 tn.n, .string tn.s, .int .i64 tx.k, .int .i64 tx.n, .string tx.s] 43 (0, 0))
  rd : Rdr 97 X (T + 1) s f
  co : X.heap[T + 1 + 1]? = some (.cells #[.int .i64 lid, vr, vd, vv] 29 (0, 0))
  lo : W.heap.size + 1 < T
  old : Below W.heap.size W X
theorem RbI.call {W : World} {lid kind : Int} {mr md : Nat} {pa : Option Addr} {pn pc e u : Nat} {th : Bool} {tn tx : Vl} {T : Nat} {s s' : ByteArray} {f f' : Bool} {vr vd vv : Value} {X w' : World} (h : RbI W lid kind mr md pa pn pc e u th tn tx T s f vr vd vv X) (hf : PFr (T + 1) X w') (hr : Rdr 97 w' (T + 1) s' f') : RbI W lid kind mr md pa pn pc e u th tn tx T s' f' vr vd vv w' := by
  have hl := h.lo
  have hz := lt_of_block h.lf
  exact ⟨hf.box h.lf (by omega), hf.box h.re (by omega), hf.box h.st (by omega), hr, hf.box h.co (by omega), h.lo, h.old.trans (hf.below (by omega) (by omega))⟩
theorem RbI.keep {W : World} {lid kind : Int} {mr md : Nat} {pa : Option Addr} {pn pc e u : Nat} {th : Bool} {tn tx : Vl} {T : Nat} {s : ByteArray} {f : Bool} {vr vd vv : Value} {X w' : World} (h : RbI W lid kind mr md pa pn pc e u th tn tx T s f vr vd vv X) (hb : Below X.heap.size X w') : RbI W lid kind mr md pa pn pc e u th tn tx T s f vr vd vv w' :=
  ⟨blk_keep hb h.lf, blk_keep hb h.re, blk_keep hb h.st, h.rd.keep hb, blk_keep hb h.co, h.lo, h.old.trans (hb.mono h.old.size)⟩
theorem RbI.putR {W : World} {lid kind : Int} {mr md : Nat} {pa : Option Addr} {pn pc e u : Nat} {th : Bool} {tn tx : Vl} {T : Nat} {s : ByteArray} {f : Bool} {vr vd vv : Value} {X : World} (h : RbI W lid kind mr md pa pn pc e u th tn tx T s f vr vd vv X) (v : Value) : RbI W lid kind mr md pa pn pc e u th tn tx T s f v vd vv (X.setCell ⟨T + 1 + 1, 1, none⟩ v) := by
  have hl := h.lo
  exact ⟨blk_other h.lf (by omega) _, blk_other h.re (by omega) _, blk_other h.st (by omega) _, blk_other h.rd (by omega) _, row_setCell h.co v, h.lo, h.old.setCell (by simp; omega) _⟩
theorem RbI.putD {W : World} {lid kind : Int} {mr md : Nat} {pa : Option Addr} {pn pc e u : Nat} {th : Bool} {tn tx : Vl} {T : Nat} {s : ByteArray} {f : Bool} {vr vd vv : Value} {X : World} (h : RbI W lid kind mr md pa pn pc e u th tn tx T s f vr vd vv X) (v : Value) : RbI W lid kind mr md pa pn pc e u th tn tx T s f vr v vv (X.setCell ⟨T + 1 + 1, 2, none⟩ v) := by
  have hl := h.lo
  exact ⟨blk_other h.lf (by omega) _, blk_other h.re (by omega) _, blk_other h.st (by omega) _, blk_other h.rd (by omega) _, row_setCell h.co v, h.lo, h.old.setCell (by simp; omega) _⟩
theorem RbI.putV {W : World} {lid kind : Int} {mr md : Nat} {pa : Option Addr} {pn pc e u : Nat} {th : Bool} {tn tx : Vl} {T : Nat} {s : ByteArray} {f : Bool} {vr vd vv : Value} {X : World} (h : RbI W lid kind mr md pa pn pc e u th tn tx T s f vr vd vv X) (v : Value) : RbI W lid kind mr md pa pn pc e u th tn tx T s f vr vd v (X.setCell ⟨T + 1 + 1, 3, none⟩ v) := by
  have hl := h.lo
  exact ⟨blk_other h.lf (by omega) _, blk_other h.re (by omega) _, blk_other h.st (by omega) _, blk_other h.rd (by omega) _, row_setCell h.co v, h.lo, h.old.setCell (by simp; omega) _⟩
theorem Lies.pfr {X w' : World} {a : Option Addr} {cs : List Value} {N R : Nat} (h : Lies X a cs) (hf : Fsh N a) (hR : R < N) (hp : PFr R X w') : Lies w' a cs := fun j hj => by
  obtain ⟨b, o, rfl, hc⟩ := h j hj
  have := hf _ rfl
  exact ⟨b, o, rfl, hp.cell hc (by show b ≠ R; have : N ≤ b := this; omega)⟩
theorem Lies.fset {X : World} {a : Option Addr} {cs : List Value} {N g j : Nat} {v : Value} (h : Lies X a cs) (hf : Fsh N a) (hg : g < N) : Lies (X.setCell ⟨g, j, none⟩ v) a cs := h.off fun p hp => Nat.lt_of_lt_of_le hg (hf p hp)
theorem LiesV.fset {X : World} {a : Option Addr} {vs : List Vl} {N g j : Nat} {v : Value} (h : LiesV X a vs) (hf : Fsh N a) (hg : g < N) : LiesV (X.setCell ⟨g, j, none⟩ v) a vs := h.off fun p hp => Nat.lt_of_lt_of_le hg (hf p hp)
/-- What is known behind levels. -/
def LvF (N : Nat) (s : ByteArray) (most many : Nat) (f f2 : Bool) (a : Option Addr) (l c : Nat) (s2 : ByteArray) (X : World) : Prop :=
  (f2 = f ∧ ∃ n k p, LvAt s most many n k p ∧ l = p.length ∧ l ≤ c ∧ Fsh N a ∧ Lies X a (i64s (lvI p)) ∧ s2 = s.extract (k + n) s.size) ∨ (f2 = true ∧ ¬ ∃ n k p, LvAt s most many n k p)
theorem LvF.pfr {N : Nat} {s : ByteArray} {most many : Nat} {f f2 : Bool} {a : Option Addr} {l c : Nat} {s2 : ByteArray} {X w' : World} {R : Nat} (h : LvF N s most many f f2 a l c s2 X) (hR : R < N) (hp : PFr R X w') : LvF N s most many f f2 a l c s2 w' := by
  rcases h with ⟨h0, n, k, p, h1, h2, h3, h4, h5, h6⟩ | h
  · exact .inl ⟨h0, n, k, p, h1, h2, h3, h4, h5.pfr h4 hR hp, h6⟩
  · exact .inr h
theorem LvF.fset {N : Nat} {s : ByteArray} {most many : Nat} {f f2 : Bool} {a : Option Addr} {l c : Nat} {s2 : ByteArray} {X : World} {g j : Nat} {v : Value} (h : LvF N s most many f f2 a l c s2 X) (hg : g < N) : LvF N s most many f f2 a l c s2 (X.setCell ⟨g, j, none⟩ v) := by
  rcases h with ⟨h0, n, k, p, h1, h2, h3, h4, h5, h6⟩ | h
  · exact .inl ⟨h0, n, k, p, h1, h2, h3, h4, h5.fset h4 hg, h6⟩
  · exact .inr h
theorem LvF.of {N R : Nat} {s : ByteArray} {f : Bool} {most many : Nat} {e : Ending} {w' : World} (h : LevR N R s f most many e w') : ∃ a l c s2 f2, e = .returned (.slice a l c) ∧ s2.size ≤ s.size ∧ Rdr 97 w' R s2 f2 ∧ LvF N s most many f f2 a l c s2 w' := by
  rcases h with ⟨n, k, p, a, c, h1, h2, h3, h4, h5, h6⟩ | ⟨h1, a, l, c, s', h2, h3, h4⟩
  · exact ⟨a, p.length, c, _, f, h2, by rw [ByteArray.size_extract]; omega, h6, .inl ⟨rfl, n, k, p, h1, rfl, h4, h5, h3, rfl⟩⟩
  · exact ⟨a, l, c, s', true, h2, h3, h4, .inr ⟨rfl, h1⟩⟩
/-- What is known behind values. -/
def VsF (N : Nat) (s : ByteArray) (kd : Int) (many : Nat) (f f2 : Bool) (a : Option Addr) (l c : Nat) (s2 : ByteArray) (X : World) : Prop :=
  (f2 = f ∧ ∃ b n k vs, BsAt s kd many b n k vs ∧ l = many ∧ l ≤ c ∧ Fsh N a ∧ LiesV X a vs ∧ s2 = (s.extract 1 s.size).extract (k + n) (s.extract 1 s.size).size) ∨ (f2 = true ∧ ¬ ∃ b n k vs, BsAt s kd many b n k vs)
theorem VsF.fset {N : Nat} {s : ByteArray} {kd : Int} {many : Nat} {f f2 : Bool} {a : Option Addr} {l c : Nat} {s2 : ByteArray} {X : World} {g j : Nat} {v : Value} (h : VsF N s kd many f f2 a l c s2 X) (hg : g < N) : VsF N s kd many f f2 a l c s2 (X.setCell ⟨g, j, none⟩ v) := by
  rcases h with ⟨h0, b, n, k, p, h1, h2, h3, h4, h5, h6⟩ | h
  · exact .inl ⟨h0, b, n, k, p, h1, h2, h3, h4, h5.fset h4 hg, h6⟩
  · exact .inr h
theorem VsF.of {N R : Nat} {s : ByteArray} {f : Bool} {kd : Int} {many : Nat} {e : Ending} {w' : World} (h : VlsR N R s f kd many e w') : ∃ a l c s2 f2, e = .returned (.slice a l c) ∧ s2.size ≤ s.size ∧ Rdr 97 w' R s2 f2 ∧ VsF N s kd many f f2 a l c s2 w' := by
  rcases h with ⟨b, n, k, vs, a, c, h1, h2, h3, h4, h5, h6⟩ | ⟨h1, a, l, c, s', h2, h3, h4⟩
  · exact ⟨a, many, c, _, f, h2, by rw [ByteArray.size_extract, ByteArray.size_extract]; omega, h6, .inl ⟨rfl, b, n, k, vs, h1, rfl, h4, h5, h3, rfl⟩⟩
  · exact ⟨a, l, c, s', true, h2, h3, h4, .inr ⟨rfl, h1⟩⟩
end Go.Proofs.YteeheodcejeloaaGreatDoor

namespace Go.Proofs.YteeheodcejeloaaGreatDoor
open Go.RowKit
/-- What readBody answers. -/
def RbR (N : Nat) (lid kind : Int) (mr md : Nat) (s : ByteArray) (ev : Value) (e : Ending) (w' : World) : Prop :=
  (∃ (p d : List Nat) (k : Cl), IsBd lid kind mr md s p d k.vs ∧ k.id = lid ∧ k.rs = lvI p ∧ k.ds = lvI d ∧ e = .returned (.tuple #[.agg #[.int .i64 k.id, .slice k.ra k.rs.length k.rc, .slice k.da k.ds.length k.dc, .slice k.va k.vs.length k.vc], .nilIface]) ∧ k.At w' ∧ k.Fr N ∧ k.Cap) ∨
  ((¬ ∃ p d vs, IsBd lid kind mr md s p d vs) ∧ e = .returned (.tuple #[.agg #[.int .i64 0, .slice none 0 0, .slice none 0 0, .slice none 0 0], ev]))
theorem ext_zero {s : ByteArray} (h : s.size = 0) : s = ⟨#[]⟩ := by
  cases s with
  | mk d => simp [ByteArray.size] at h; subst h; rfl
theorem lvI_len (p : List Nat) : (lvI p).length = p.length := List.length_map ..
theorem lvI_inj {p q : List Nat} (h : i64s (lvI p) = i64s (lvI q)) : p = q := by
  have hl : p.length = q.length := by
    have := congrArg List.length h
    rwa [i64s_len, i64s_len, lvI_len, lvI_len] at this
  refine List.ext_getElem hl fun j h1 h2 => ?_
  have h3 : (i64s (lvI p))[j]? = (i64s (lvI q))[j]? := by rw [h]
  simp [i64s, lvI, h1, h2] at h3
  exact Int.ofNat.inj h3
theorem lies_inj {w : World} {a : Option Addr} {xs ys : List Value} (h : Lies w a xs) (h' : Lies w a ys) (hl : xs.length = ys.length) : xs = ys := by
  refine List.ext_getElem hl fun j h1 h2 => ?_
  obtain ⟨b, o, e, hc⟩ := h j h1
  obtain ⟨b', o', e', hc'⟩ := h' j h2
  rw [e] at e'
  cases e'
  rw [hc] at hc'
  injection hc'
theorem liesV_inj {w : World} {a : Option Addr} {xs ys : List Vl} (h : LiesV w a xs) (h' : LiesV w a ys) (hl : xs.length = ys.length) : xs = ys := by
  refine List.ext_getElem hl fun j h1 h2 => ?_
  obtain ⟨b, o, e, c0, c1, c2⟩ := h j h1
  obtain ⟨b', o', e', d0, d1, d2⟩ := h' j h2
  rw [e] at e'
  cases e'
  rw [c0] at d0
  rw [c1] at d1
  rw [c2] at d2
  generalize xs[j] = x at *
  generalize ys[j] = y at *
  obtain ⟨x0, x1, x2⟩ := x
  obtain ⟨y0, y1, y2⟩ := y
  cases d0
  cases d1
  cases d2
  rfl
set_option maxRecDepth 100000 in
set_option maxHeartbeats 12800000 in
theorem readBody_any (lid kind : Int) (mr md : Nat) (pa : Option Addr) (pn pc : Nat) (s : ByteArray) (hs : s.size ≤ 1000000) (hk1 : 1 ≤ kind) (hk5 : kind ≤ 5) (hmr : mr ≤ 40) (hmd : md ≤ 40) (W : World) (st kt bt tt : TypeId) (sp kp bp tp : Value)
    (hgs : W.cell? ⟨0, 0, none⟩ = some (.iface st sp)) (hgk : W.cell? ⟨4, 0, none⟩ = some (.iface kt kp)) (hgb : W.cell? ⟨3, 0, none⟩ = some (.iface bt bp)) (hgt : W.cell? ⟨1, 0, none⟩ = some (.iface tt tp)) :
    Calls Tryz.prog 21 #[.agg #[.int .i64 lid, .int .i64 kind, .int .i64 (mr : Nat), .int .i64 (md : Nat), .slice pa pn pc], .string s] W fun e w' => RbR W.heap.size lid kind mr md s (.iface tt tp) e w' ∧ Below W.heap.size W w' := by
  obtain ⟨w0, HW0, HX, HY, HB⟩ := two_boxesP W #[.int .i64 lid, .int .i64 kind, .int .i64 (mr : Nat), .int .i64 (md : Nat), .slice pa pn pc] #[.int .i64 0, .slice none 0 0, .slice none 0 0, .slice none 0 0] 34 29
  have ck : ∀ {g : Nat} {v : Value}, W.cell? ⟨g, 0, none⟩ = some v → ∀ X, Below W.heap.size W X → X.cell? ⟨g, 0, none⟩ = some v := fun h X hX => (hX.cell (World.block_lt_of_cell? W _ h)).trans h
  have HGS : Hid (∀ X, Below W.heap.size W X → X.cell? ⟨0, 0, none⟩ = some (.iface st sp)) := ck hgs
  have HGK : Hid (∀ X, Below W.heap.size W X → X.cell? ⟨4, 0, none⟩ = some (.iface kt kp)) := ck hgk
  have HGB : Hid (∀ X, Below W.heap.size W X → X.cell? ⟨3, 0, none⟩ = some (.iface bt bp)) := ck hgb
  have HGT : Hid (∀ X, Below W.heap.size W X → X.cell? ⟨1, 0, none⟩ = some (.iface tt tp)) := ck hgt
  have hgN : 1 ≠ W.heap.size + 1 := by have : 1 < W.heap.size := World.block_lt_of_cell? W _ hgt; omega
  clear ck hgs hgk hgb hgt
  go_enter Tryz.func21, Tryz.ntmps21
  go_upto_region 1 with fail
  rw [HW0.out]
  obtain ⟨⟨p0, p1, p2, p3, p4⟩, _⟩ := row_five HX.out
  go_wp2_with fail
  refine Calls.mono (readStats_any lid kind mr md pa pn pc s hs w0 tt tp (HGT.out w0 HB.out)) ?_
  rintro e w1 ⟨hx, hb1⟩
  have HB1 : Hid (Below W.heap.size W w1) := HB.out.trans (hb1.mono HB.out.size)
  have HX1 : Hid (w1.heap[W.heap.size]? = some (.cells #[.int .i64 lid, .int .i64 kind, .int .i64 (mr : Nat), .int .i64 (md : Nat), .slice pa pn pc] 34 (0, 0))) := blk_keep hb1 HX.out
  have HY1 : Hid (w1.heap[W.heap.size + 1]? = some (.cells #[.int .i64 0, .slice none 0 0, .slice none 0 0, .slice none 0 0] 29 (0, 0))) := blk_keep hb1 HY.out
  have hlo : W.heap.size + 1 < w1.heap.size := lt_of_block HY1.out
  clear hb1 HX HY HB HW0 p0 p1 p2 p3 p4
  rcases hx with ⟨t, r, hbg, hps, rfl⟩ | ⟨hno, rfl⟩
  rotate_left
  · have HNo : Hid (¬ ∃ p d vs, IsBd lid kind mr md s p d vs) := fun ⟨p, d, vs, t, n1, k1, n2, k2, b, n3, k3, h⟩ => by
      obtain ⟨r, hr⟩ := h.beg
      exact hno ⟨t, r, hr, h.pgs⟩
    clear hno
    obtain ⟨w5, HW5, HS5, HB5'⟩ := boxed1 w1 St.zero.cs 43
    have HY5 : Hid (w5.heap[W.heap.size + 1]? = some (.cells #[.int .i64 0, .slice none 0 0, .slice none 0 0, .slice none 0 0] 29 (0, 0))) := blk_keep HB5'.out HY1.out
    have HB5 : Hid (Below W.heap.size W w5) := HB1.out.trans (HB5'.out.mono HB1.out.size)
    unfold St.val St.cs St.zero Vl.zero
    unfold St.cs St.zero Vl.zero at HW5
    go_upto_region 2 with fail
    rw [HW5.out]
    obtain ⟨k0, k1, k2, k3⟩ := row_four HY5.out
    obtain ⟨m0, m1, m2, m3⟩ := row_fourA HY5.out
    go_wp2
    exact bodyPost_ret (v := .tuple #[.agg #[.int .i64 0, .slice none 0 0, .slice none 0 0, .slice none 0 0], .iface tt tp]) (results_cR Tryz.results21 _ _ (W.heap.size + 1) 29 #[.int .i64 0, .slice none 0 0, .slice none 0 0, .slice none 0 0] (0, 0) _ _ rfl rfl (row_setCell (row_setCell (row_setCell (row_setCell HY5.out _) _) _) _) Tryz.underlying29 rfl (by kernel_rfl)) rfl ⟨.inr ⟨HNo.out, rfl⟩, (((HB5.out.setCell (by simp) _).setCell (by simp) _).setCell (by simp) _).setCell (by simp) _⟩
  obtain ⟨te, tu, th, tn, tx⟩ := t
  obtain ⟨e, rfl⟩ := Int.eq_ofNat_of_zero_le hbg.1.e.1
  obtain ⟨u, rfl⟩ := Int.eq_ofNat_of_zero_le hbg.1.u.1
  have he : e ≤ 20000 := (by have h : ((e : Nat) : Int) ≤ 20000 := hbg.1.e.2; omega)
  have hu : u ≤ e := (by have h : ((u : Nat) : Int) ≤ ((e : Nat) : Int) := hbg.1.u.2; omega)
  have he0 : 0 < e := (by have h : (0 : Int) < ((e : Nat) : Int) := hps.1; omega)
  obtain ⟨z, HZ⟩ : ∃ z, Hid ((stTx ⟨(e : Int), (u : Int), th, tn, tx⟩).length = z) := ⟨_, rfl⟩
  have hzs : z ≤ s.size := (by
    have h := congrArg List.length hbg.2
    rw [List.length_append, HZ.out, Array.length_toList] at h
    show z ≤ s.data.size
    omega)
  have HBg : Hid (BegS s.data.toList ⟨(e : Int), (u : Int), th, tn, tx⟩ r ∧ PgS kind ⟨(e : Int), (u : Int), th, tn, tx⟩) := ⟨hbg, hps⟩
  clear hbg hps
  rw [HZ.out]
  obtain ⟨s1, HS1⟩ : ∃ x, Hid (s.extract z s.size = x) := ⟨_, rfl⟩
  have hs1 : s1.size ≤ 1000000 := by rw [← HS1.out, ByteArray.size_extract]; omega
  obtain ⟨wa, HWa, HTa, HRa, HBa⟩ := two_boxesP w1 #[.int .i64 (e : Nat), .int .i64 (u : Nat), .bool th, .int .i64 tn.k, .int .i64 tn.n, .string tn.s, .int .i64 tx.k, .int .i64 tx.n, .string tx.s] #[.string s1, .bool false] 43 97
  obtain ⟨w2, HW2, HC2, HB2⟩ := boxed1 wa #[.int .i64 lid, .slice none 0 0, .slice none 0 0, .slice none 0 0] 29
  have HXa : Hid _ := blk_keep HBa.out HX1.out
  have haz : wa.heap.size = w1.heap.size + 1 + 1 := by rw [← HWa.out]; simp
  rw [haz] at HC2
  have HBw : Hid (Below W.heap.size W w2) := (HB1.out.trans (HBa.out.mono HB1.out.size)).trans (HB2.out.mono (Nat.le_trans HB1.out.size HBa.out.size))
  have HI2 : Hid (RbI W lid kind mr md pa pn pc e u th tn tx w1.heap.size s1 false (.slice none 0 0) (.slice none 0 0) (.slice none 0 0) w2) := ⟨blk_keep HB2.out HXa.out, blk_keep HB2.out (blk_keep HBa.out HY1.out), blk_keep HB2.out HTa.out, blk_keep HB2.out HRa.out, HC2.out, hlo, HBw.out⟩
  have hzi : (z : Int) ≤ (s.size : Int) := by omega
  have hex : s.extract z s.size = s1 := HS1.out
  unfold St.val St.cs
  go_upto_region 5 with fail
  rw [HWa.out]
  obtain ⟨⟨p0, p1, p2, p3, p4⟩, _⟩ := row_five HXa.out
  go_upto_region 6 with fail
  rw [HW2.out]
  have hz2 : w1.heap.size + 1 + 1 < w2.heap.size := lt_of_block HI2.out.co
  clear p0 p1 p2 p3 p4 HXa HWa HTa HRa HBa HW2 HC2 HB2 haz HBw HX1 HY1 HB1 hex hzi
  generalize w1.heap.size = T at *
  clear w1
  obtain ⟨⟨p0, p1, p2, p3, p4⟩, _⟩ := row_five HI2.out.lf
  obtain ⟨⟨t0, t1, t2, t3, t4, t5, t6, t7, t8⟩, _⟩ := row_nine HI2.out.st
  go_wp2_with fail
  refine Calls.mono (levels_any (T + 1) s1 false mr e w2 HI2.out.rd hs1 hmr he tt tp (HGT.out w2 HI2.out.old)) ?_
  rintro e1 w3 ⟨hx, hfr⟩
  obtain ⟨a1, l1, c1, s2, f2, rfl, hz3, hr3, hF⟩ := LvF.of hx
  have HI3 : Hid _ := HI2.out.call hfr hr3
  have HF3 : Hid (LvF w2.heap.size s1 mr e false f2 a1 l1 c1 s2 w3) := hF
  have hzz3 : w2.heap.size ≤ w3.heap.size := hfr.size
  clear hx hfr hr3 hF p0 p1 p2 p3 p4 t0 t1 t2 t3 t4 t5 t6 t7 t8 HI2
  obtain ⟨k0, k1, k2, k3⟩ := row_four HI3.out.co
  obtain ⟨m0, m1, m2, m3⟩ := row_fourA HI3.out.co
  have HI4 : Hid _ := HI3.out.putR (.slice a1 l1 c1)
  have HF4 : Hid (LvF w2.heap.size s1 mr e false f2 a1 l1 c1 s2 (w3.setCell ⟨T + 1 + 1, 1, none⟩ (.slice a1 l1 c1))) := HF3.out.fset (j := 1) (v := .slice a1 l1 c1) hz2
  have hzz4 : w2.heap.size ≤ (w3.setCell ⟨T + 1 + 1, 1, none⟩ (.slice a1 l1 c1)).heap.size := by simpa using hzz3
  go_upto_region 7 with fail
  generalize w3.setCell ⟨T + 1 + 1, 1, none⟩ (.slice a1 l1 c1) = w4 at HI4 HF4 hzz4 ⊢
  clear HI3 HF3 hzz3 k0 k1 k2 k3 m0 m1 m2 m3
  clear w3
  obtain ⟨⟨p0, p1, p2, p3, p4⟩, _⟩ := row_five HI4.out.lf
  obtain ⟨⟨t0, t1, t2, t3, t4, t5, t6, t7, t8⟩, _⟩ := row_nine HI4.out.st
  go_wp2_with fail
  refine Calls.mono (levels_any (T + 1) s2 f2 md e w4 HI4.out.rd (by omega) hmd he tt tp (HGT.out w4 HI4.out.old)) ?_
  rintro e1 w5 ⟨hx, hfr⟩
  obtain ⟨a2, l2, c2, s3, f3, rfl, hz5, hr5, hF⟩ := LvF.of hx
  have HI5 : Hid _ := HI4.out.call hfr hr5
  have HG5 : Hid (LvF w4.heap.size s2 md e f2 f3 a2 l2 c2 s3 w5) := hF
  have HF5 : Hid (LvF w2.heap.size s1 mr e false f2 a1 l1 c1 s2 w5) := HF4.out.pfr (by omega) hfr
  have hzz5 : w4.heap.size ≤ w5.heap.size := hfr.size
  clear hx hfr hr5 hF p0 p1 p2 p3 p4 t0 t1 t2 t3 t4 t5 t6 t7 t8 HI4 HF4
  obtain ⟨k0, k1, k2, k3⟩ := row_four HI5.out.co
  obtain ⟨m0, m1, m2, m3⟩ := row_fourA HI5.out.co
  have HI6 : Hid _ := HI5.out.putD (.slice a2 l2 c2)
  have HF6 : Hid (LvF w2.heap.size s1 mr e false f2 a1 l1 c1 s2 (w5.setCell ⟨T + 1 + 1, 2, none⟩ (.slice a2 l2 c2))) := HF5.out.fset (j := 2) (v := .slice a2 l2 c2) hz2
  have HG6 : Hid (LvF w4.heap.size s2 md e f2 f3 a2 l2 c2 s3 (w5.setCell ⟨T + 1 + 1, 2, none⟩ (.slice a2 l2 c2))) := HG5.out.fset (g := T + 1 + 1) (j := 2) (v := .slice a2 l2 c2) (by omega)
  have hzz6 : w4.heap.size ≤ (w5.setCell ⟨T + 1 + 1, 2, none⟩ (.slice a2 l2 c2)).heap.size := by simpa using hzz5
  go_upto_region 8 with fail
  generalize w5.setCell ⟨T + 1 + 1, 2, none⟩ (.slice a2 l2 c2) = w6 at HI6 HF6 HG6 hzz6 ⊢
  clear HI5 HF5 HG5 hzz5 k0 k1 k2 k3 m0 m1 m2 m3
  clear w5
  obtain ⟨⟨p0, p1, p2, p3, p4⟩, _⟩ := row_five HI6.out.lf
  obtain ⟨⟨t0, t1, t2, t3, t4, t5, t6, t7, t8⟩, _⟩ := row_nine HI6.out.st
  have hsb : IntKind.i64.wrap ((e : Int) - (u : Int)) = ((e - u : Nat) : Int) := by rw [IntKind.wrap_i64]; omega
  go_wp2_with fail
  refine Calls.mono (pvals_any (T + 1) s3 f3 kind (e - u) w6 HI6.out.rd (by omega) hk1 hk5 (by omega) tt kt st tp kp sp (HGT.out w6 HI6.out.old) (HGK.out w6 HI6.out.old) (HGS.out w6 HI6.out.old)) ?_
  rintro e1 w7 ⟨hx, hfr⟩
  obtain ⟨a3, l3, c3, s4, f4, rfl, hz7, hr7, hF⟩ := VsF.of hx
  have HI7 : Hid (RbI W lid kind mr md pa pn pc e u th tn tx T s4 f4 (.slice a1 l1 c1) (.slice a2 l2 c2) (.slice none 0 0) w7) := HI6.out.call hfr hr7
  have HV7 : Hid (VsF w6.heap.size s3 kind (e - u) f3 f4 a3 l3 c3 s4 w7) := hF
  have HF7 : Hid (LvF w2.heap.size s1 mr e false f2 a1 l1 c1 s2 w7) := HF6.out.pfr (by omega) hfr
  have HG7 : Hid (LvF w4.heap.size s2 md e f2 f3 a2 l2 c2 s3 w7) := HG6.out.pfr (by omega) hfr
  have hzz7 : w6.heap.size ≤ w7.heap.size := hfr.size
  clear hx hfr hr7 hF p0 p1 p2 p3 p4 t0 t1 t2 t3 t4 t5 t6 t7 t8 HI6 HF6 HG6
  obtain ⟨k0, k1, k2, k3⟩ := row_four HI7.out.co
  obtain ⟨m0, m1, m2, m3⟩ := row_fourA HI7.out.co
  have HI8 : Hid (RbI W lid kind mr md pa pn pc e u th tn tx T s4 f4 (.slice a1 l1 c1) (.slice a2 l2 c2) (.slice a3 l3 c3) (w7.setCell ⟨T + 1 + 1, 3, none⟩ (.slice a3 l3 c3))) := HI7.out.putV (.slice a3 l3 c3)
  have HF8 : Hid (LvF w2.heap.size s1 mr e false f2 a1 l1 c1 s2 (w7.setCell ⟨T + 1 + 1, 3, none⟩ (.slice a3 l3 c3))) := HF7.out.fset (j := 3) (v := .slice a3 l3 c3) hz2
  have HG8 : Hid (LvF w4.heap.size s2 md e f2 f3 a2 l2 c2 s3 (w7.setCell ⟨T + 1 + 1, 3, none⟩ (.slice a3 l3 c3))) := HG7.out.fset (g := T + 1 + 1) (j := 3) (v := .slice a3 l3 c3) (by omega)
  have HV8 : Hid (VsF w6.heap.size s3 kind (e - u) f3 f4 a3 l3 c3 s4 (w7.setCell ⟨T + 1 + 1, 3, none⟩ (.slice a3 l3 c3))) := HV7.out.fset (g := T + 1 + 1) (j := 3) (v := .slice a3 l3 c3) (by omega)
  have hlos : W.heap.size ≤ w2.heap.size ∧ w2.heap.size ≤ w4.heap.size ∧ w4.heap.size ≤ w6.heap.size := ⟨by omega, by omega, by omega⟩
  go_upto_region 9 with fail
  generalize w7.setCell ⟨T + 1 + 1, 3, none⟩ (.slice a3 l3 c3) = w8 at HI8 HF8 HG8 HV8 ⊢
  clear HI7 HF7 HG7 HV7 hzz7 k0 k1 k2 k3 m0 m1 m2 m3
  clear w7
  -- what is read, as the body's own words
  have HFn : Hid (∀ p d vs, IsBd lid kind mr md s p d vs → f4 = false ∧ s4.size = 0 ∧ l1 = p.length ∧ l2 = d.length ∧ l3 = vs.length ∧ GoodC lid kind mr md ⟨lid, none, 0 :: (lvI p).tail, 0, none, lvI d, 0, none, vs, 0⟩ ∧ ofC ⟨lid, none, lvI p, 0, none, lvI d, 0, none, vs, 0⟩ = ⟨(e : Int), (u : Int), th, tn, tx⟩ ∧ Lies w8 a1 (i64s (lvI p)) ∧ Lies w8 a2 (i64s (lvI d)) ∧ LiesV w8 a3 vs) := (by
    rintro p d vs ⟨t, n1, k1, n2, k2, b, n3, k3, h⟩
    obtain ⟨r', hr'⟩ := h.beg
    obtain rfl := begS_fn HBg.out.1 hr'
    have e1 := h.rep
    have e2 := h.def_
    have e3 := h.val
    have e4 := h.fin
    rw [HZ.out, HS1.out] at e1 e2 e3 e4
    have e1' : LvAt s1 mr e n1 k1 p := e1
    have e2' : LvAt (s1.extract (k1 + n1) s1.size) md e n2 k2 d := e2
    rcases HF8.out with ⟨g0, n, k, p', g1, g2, g3, g4, g5, g6⟩ | ⟨_, h2⟩
    · obtain ⟨rfl, rfl, rfl⟩ := e1'.fn g1
      rw [← g6] at e2' e3 e4
      rcases HG8.out with ⟨i0, n, k, p', i1, i2, i3, i4, i5, i6⟩ | ⟨_, h2⟩
      · obtain ⟨rfl, rfl, rfl⟩ := e2'.fn i1
        rw [← i6] at e3 e4
        have e3' : BsAt s3 kind (e - u) b n3 k3 vs := (by
          have : ((e : Int) - (u : Int)).toNat = e - u := by omega
          rw [← this]
          exact e3)
        rcases HV8.out with ⟨j0, b', n, k, vs', j1, j2, j3, j4, j5, j6⟩ | ⟨_, h2⟩
        · obtain ⟨rfl, rfl, rfl, rfl⟩ := e3'.fn j1
          refine ⟨by rw [j0, i0, g0], ?_, g2, i2, by rw [j2]; exact (isBs_len e3'.is).symm, h.good, h.told, g5, i5, j5⟩
          rw [j6, ByteArray.size_extract, e4]
          omega
        · exact absurd ⟨_, _, _, _, e3'⟩ h2
      · exact absurd ⟨_, _, _, e2'⟩ h2
    · exact absurd ⟨_, _, _, e1'⟩ h2)
  obtain ⟨⟨r0, r1⟩, r2, r3⟩ := HI8.out.rd.cells
  cases f4 with
  | true =>
    have HNo : Hid (¬ ∃ p d vs, IsBd lid kind mr md s p d vs) := fun ⟨p, d, vs, h⟩ => by
      have := (HFn.out p d vs h).1
      cases this
    obtain ⟨k0, k1, k2, k3⟩ := row_four HI8.out.re
    obtain ⟨m0, m1, m2, m3⟩ := row_fourA HI8.out.re
    have hgt := HGT.out w8 HI8.out.old
    clear HFn HF8 HG8 HV8
    go_upto_region 10 with fail
    go_region
    all_goals
      go_wp2
      exact bodyPost_ret (v := .tuple #[.agg #[.int .i64 0, .slice none 0 0, .slice none 0 0, .slice none 0 0], .iface tt tp]) (results_cR Tryz.results21 _ _ (W.heap.size + 1) 29 #[.int .i64 0, .slice none 0 0, .slice none 0 0, .slice none 0 0] (0, 0) _ _ rfl rfl (blk_drw (row_setCell (row_setCell (row_setCell (row_setCell HI8.out.re _) _) _) _)) Tryz.underlying29 rfl (by kernel_rfl)) rfl ⟨.inr ⟨HNo.out, rfl⟩, ((((HI8.out.old.setCell (by simp) _).setCell (by simp) _).setCell (by simp) _).setCell (by simp) _).drew⟩
  | false =>
    by_cases h4 : s4.size = 0
    rotate_left
    · have HNo : Hid (¬ ∃ p d vs, IsBd lid kind mr md s p d vs) := fun ⟨p, d, vs, h⟩ => h4 (HFn.out p d vs h).2.1
      have hE : s4.toList.isEmpty = false := by
        cases hh : s4.toList with
        | nil => exact absurd (by have h2 : s4.toList.length = 0 := by rw [hh]; rfl
                                  rw [ByteArray.toList_eq, Array.length_toList] at h2; exact h2) h4
        | cons _ _ => rfl
      obtain ⟨k0, k1, k2, k3⟩ := row_four HI8.out.re
      obtain ⟨m0, m1, m2, m3⟩ := row_fourA HI8.out.re
      have hgt := HGT.out w8 HI8.out.old
      clear HFn HF8 HG8 HV8 h4
      go_upto_region 10 with fail
      go_region
      all_goals
        go_wp2
        exact bodyPost_ret (v := .tuple #[.agg #[.int .i64 0, .slice none 0 0, .slice none 0 0, .slice none 0 0], .iface tt tp]) (results_cR Tryz.results21 _ _ (W.heap.size + 1) 29 #[.int .i64 0, .slice none 0 0, .slice none 0 0, .slice none 0 0] (0, 0) _ _ rfl rfl (blk_drw (row_setCell (row_setCell (row_setCell (row_setCell HI8.out.re _) _) _) _)) Tryz.underlying29 rfl (by kernel_rfl)) rfl ⟨.inr ⟨HNo.out, rfl⟩, ((((HI8.out.old.setCell (by simp) _).setCell (by simp) _).setCell (by simp) _).setCell (by simp) _).drew⟩
    obtain rfl := ext_zero h4
    rcases HF8.out with ⟨g0, n1, k1, p, g1, rfl, g3, g4, g5, g6⟩ | ⟨h1, h2⟩
    rotate_left
    · subst h1
      exfalso
      rcases HG8.out with ⟨i0, _⟩ | ⟨i0, _⟩
      · rw [i0] at HV8
        rcases HV8.out with ⟨j0, _⟩ | ⟨j0, _⟩ <;> cases j0
      · rw [i0] at HV8
        rcases HV8.out with ⟨j0, _⟩ | ⟨j0, _⟩ <;> cases j0
    subst g0
    rcases HG8.out with ⟨i0, n2, k2, d, i1, rfl, i3, i4, i5, i6⟩ | ⟨h1, h2⟩
    rotate_left
    · subst h1
      exfalso
      rcases HV8.out with ⟨j0, _⟩ | ⟨j0, _⟩ <;> cases j0
    subst i0
    rcases HV8.out with ⟨_, b, n3, k3, vs, j1, rfl, j3, j4, j5, j6⟩ | ⟨h1, _⟩
    rotate_left
    · cases h1
    have hvl : vs.length = e - u := isBs_len j1.is
    have hpl : p.length = e := runs_lenP _ _ _ _ _ _ (Nat.le_refl _) g1.rn
    have hdl : d.length = e := runs_lenP _ _ _ _ _ _ (Nat.le_refl _) i1.rn
    have HIs : Hid (GoodC lid kind mr md ⟨lid, none, 0 :: (lvI p).tail, 0, none, lvI d, 0, none, vs, 0⟩ ∧ ofC ⟨lid, none, lvI p, 0, none, lvI d, 0, none, vs, 0⟩ = ⟨(e : Int), (u : Int), th, tn, tx⟩ → IsBd lid kind mr md s p d vs) := (by
      rintro ⟨q1, q2⟩
      refine ⟨⟨(e : Int), (u : Int), th, tn, tx⟩, n1, k1, n2, k2, b, n3, k3, ⟨⟨_, HBg.out.1⟩, HBg.out.2, ?_, ?_, ?_, ?_, q1, q2⟩⟩
      · rw [HZ.out, HS1.out]; exact g1
      · rw [HZ.out, HS1.out, ← g6]; exact i1
      · rw [HZ.out, HS1.out, ← g6, ← i6]
        have : ((e : Int) - (u : Int)).toNat = e - u := by omega
        show BsAt s3 kind ((e : Int) - (u : Int)).toNat b n3 k3 vs
        rw [this]
        exact j1
      · rw [HZ.out, HS1.out, ← g6, ← i6]
        have h5 := congrArg ByteArray.size j6
        rw [ByteArray.size_extract] at h5
        have h6 : (0 : Nat) = min (s3.extract 1 s3.size).size (s3.extract 1 s3.size).size - (k3 + n3) := h5
        have h7 := j1.tx.fit
        omega)
    have HFq : Hid (∀ p' d' vs', IsBd lid kind mr md s p' d' vs' → (p' = p ∧ d' = d ∧ vs' = vs) ∧ GoodC lid kind mr md ⟨lid, none, 0 :: (lvI p').tail, 0, none, lvI d', 0, none, vs', 0⟩ ∧ ofC ⟨lid, none, lvI p', 0, none, lvI d', 0, none, vs', 0⟩ = ⟨(e : Int), (u : Int), th, tn, tx⟩) := (by
      intro p' d' vs' h
      obtain ⟨_, _, q1, q2, q3, q4, q5, q6, q7, q8⟩ := HFn.out p' d' vs' h
      refine ⟨⟨?_, ?_, ?_⟩, q4, q5⟩
      · exact lvI_inj (lies_inj q6 g5 (by rw [i64s_len, i64s_len, lvI_len, lvI_len]; exact q1.symm))
      · exact lvI_inj (lies_inj q7 i5 (by rw [i64s_len, i64s_len, lvI_len, lvI_len]; exact q2.symm))
      · exact liesV_inj q8 j5 (by rw [hvl]; exact q3.symm))
    have HLw : Hid (∀ v ∈ vs, v.Low) := isBs_low j1.is
    have HL1 : Hid (Lies w8 a1 (i64s (lvI p))) := g5
    have HL2 : Hid (Lies w8 a2 (i64s (lvI d))) := i5
    have HL3 : Hid (LiesV w8 a3 vs) := j5
    have HFs : Hid (Fsh w2.heap.size a1 ∧ Fsh w2.heap.size a2 ∧ Fsh w2.heap.size a3) := ⟨g4, i4.low (by omega), j4.low (by omega)⟩
    have hlp : (lvI p).length = p.length := List.length_map ..
    have hld : (lvI d).length = d.length := List.length_map ..
    have HTo : Hid (Calls Tryz.prog 46 #[.agg #[.int .i64 lid, .int .i64 kind, .int .i64 (mr : Nat), .int .i64 (md : Nat), .slice pa pn pc], .agg #[.int .i64 lid, .slice a1 p.length c1, .slice a2 d.length c2, .slice a3 (e - u) c3], .agg #[.int .i64 (e : Nat), .int .i64 (u : Nat), .bool th, .int .i64 tn.k, .int .i64 tn.n, .string tn.s, .int .i64 tx.k, .int .i64 tx.n, .string tx.s]] w8 fun e' w' => (∃ b, e' = .returned (.bool b) ∧ (b = true ↔ GoodC lid kind mr md ⟨lid, none, 0 :: (lvI p).tail, 0, none, lvI d, 0, none, vs, 0⟩ ∧ ofC ⟨lid, none, lvI p, 0, none, lvI d, 0, none, vs, 0⟩ = ⟨(e : Int), (u : Int), th, tn, tx⟩)) ∧ Below w8.heap.size w8 w') := (by
      have h := isTold_any lid kind mr md pa pn pc ⟨lid, a1, lvI p, c1, a2, lvI d, c2, a3, vs, c3⟩ ⟨(e : Int), (u : Int), th, tn, tx⟩ w8 st kt bt sp kp bp (by show 0 < (lvI p).length; omega) (by show (lvI p).length ≤ _; omega) (by show (lvI d).length ≤ _; omega) (by show vs.length ≤ _; omega) (by show (lvI d).length ≤ c2; omega) (by show vs.length ≤ c3; omega) (HGS.out w8 HI8.out.old) (HGK.out w8 HI8.out.old) (HGB.out w8 HI8.out.old) ⟨HL1.out, HL2.out, HL3.out⟩ HLw.out
      simp only [hlp, hld, hvl] at h
      exact h)
    have HCp : Hid (p.length ≤ c1 ∧ d.length ≤ c2 ∧ e - u ≤ c3) := ⟨g3, i3, j3⟩
    have HVl : Hid (vs.length = e - u ∧ (lvI p).length = p.length ∧ (lvI d).length = d.length) := ⟨hvl, hlp, hld⟩
    obtain ⟨⟨p0, p1, p2, p3, p4⟩, _⟩ := row_five HI8.out.lf
    obtain ⟨k0, k1', k2', k3'⟩ := row_four HI8.out.co
    obtain ⟨⟨t0, t1, t2, t3, t4, t5, t6, t7, t8⟩, _⟩ := row_nine HI8.out.st
    clear g1 g3 g4 g5 g6 i1 i3 i4 i5 i6 j1 j3 j4 j5 j6 hvl hpl hdl hlp hld HF8 HG8 HV8 HFn h4
    go_wp2_with fail
    refine Calls.mono HTo.out ?_
    rintro e' w9 ⟨⟨bo, rfl, hbo⟩, hb9⟩
    have HI9 : Hid (RbI W lid kind mr md pa pn pc e u th tn tx T ⟨#[]⟩ false (.slice a1 p.length c1) (.slice a2 d.length c2) (.slice a3 (e - u) c3) w9) := HI8.out.keep hb9
    have HM1 : Hid (Lies w9 a1 (i64s (lvI p))) := HL1.out.keep hb9
    have HM2 : Hid (Lies w9 a2 (i64s (lvI d))) := HL2.out.keep hb9
    have HM3 : Hid (LiesV w9 a3 vs) := HL3.out.keep hb9
    have HBo : Hid (bo = true ↔ GoodC lid kind mr md ⟨lid, none, 0 :: (lvI p).tail, 0, none, lvI d, 0, none, vs, 0⟩ ∧ ofC ⟨lid, none, lvI p, 0, none, lvI d, 0, none, vs, 0⟩ = ⟨(e : Int), (u : Int), th, tn, tx⟩) := hbo
    clear hbo hb9 HL1 HL2 HL3 HI8 p0 p1 p2 p3 p4 k0 k1' k2' k3' t0 t1 t2 t3 t4 t5 t6 t7 t8 r0 r1 r2 r3 HTo
    obtain ⟨k0, k1', k2', k3'⟩ := row_four HI9.out.re
    obtain ⟨m0, m1, m2, m3⟩ := row_fourA HI9.out.re
    cases bo with
    | false =>
      have HNo : Hid (¬ ∃ p d vs, IsBd lid kind mr md s p d vs) := fun ⟨p', d', vs', h⟩ => by
        have hq := HFq.out p' d' vs' h
        rw [hq.1.1, hq.1.2.1, hq.1.2.2] at hq
        have := HBo.out.2 hq.2
        cases this
      have hgt := HGT.out w9 HI9.out.old
      go_upto_region 10 with fail
      go_region
      all_goals
        go_wp2
        exact bodyPost_ret (v := .tuple #[.agg #[.int .i64 0, .slice none 0 0, .slice none 0 0, .slice none 0 0], .iface tt tp]) (results_cR Tryz.results21 _ _ (W.heap.size + 1) 29 #[.int .i64 0, .slice none 0 0, .slice none 0 0, .slice none 0 0] (0, 0) _ _ rfl rfl (blk_drw (row_setCell (row_setCell (row_setCell (row_setCell HI9.out.re _) _) _) _)) Tryz.underlying29 rfl (by kernel_rfl)) rfl ⟨.inr ⟨HNo.out, rfl⟩, ((((HI9.out.old.setCell (by simp) _).setCell (by simp) _).setCell (by simp) _).setCell (by simp) _).drew⟩
    | true =>
      have HBd : Hid (IsBd lid kind mr md s p d vs) := HIs.out (HBo.out.1 rfl)
      obtain ⟨q0, q1, q2, q3⟩ := row_four HI9.out.co
      have hlt : W.heap.size + 1 < w2.heap.size := by omega
      go_wp2
      refine bodyPost_ret (v := .tuple #[.agg #[.int .i64 lid, .slice a1 p.length c1, .slice a2 d.length c2, .slice a3 (e - u) c3], .nilIface]) (results_cR Tryz.results21 _ _ (W.heap.size + 1) 29 #[.int .i64 lid, .slice a1 p.length c1, .slice a2 d.length c2, .slice a3 (e - u) c3] (0, 0) _ _ rfl rfl (row_setCell (row_setCell (row_setCell (row_setCell HI9.out.re _) _) _) _) Tryz.underlying29 rfl (by kernel_rfl)) rfl ⟨.inl ⟨p, d, ⟨lid, a1, lvI p, c1, a2, lvI d, c2, a3, vs, c3⟩, HBd.out, rfl, rfl, rfl, ?_, ⟨?_, ?_, ?_⟩, ⟨?_, ?_, ?_⟩, ?_⟩, (((HI9.out.old.setCell (by simp) _).setCell (by simp) _).setCell (by simp) _).setCell (by simp) _⟩
      · show Ending.returned _ = Ending.returned (.tuple #[.agg #[.int .i64 lid, .slice a1 (lvI p).length c1, .slice a2 (lvI d).length c2, .slice a3 vs.length c3], .nilIface])
        rw [HVl.out.1, HVl.out.2.1, HVl.out.2.2]
      · exact (((HM1.out.fset HFs.out.1 hlt).fset HFs.out.1 hlt).fset HFs.out.1 hlt).fset HFs.out.1 hlt
      · exact (((HM2.out.fset HFs.out.2.1 hlt).fset HFs.out.2.1 hlt).fset HFs.out.2.1 hlt).fset HFs.out.2.1 hlt
      · exact (((HM3.out.fset HFs.out.2.2 hlt).fset HFs.out.2.2 hlt).fset HFs.out.2.2 hlt).fset HFs.out.2.2 hlt
      · exact HFs.out.1.low (by omega)
      · exact HFs.out.2.1.low (by omega)
      · exact HFs.out.2.2.low (by omega)
      · refine ⟨?_, ?_, ?_⟩
        · show (lvI p).length ≤ c1
          rw [HVl.out.2.1]; exact HCp.out.1
        · show (lvI d).length ≤ c2
          rw [HVl.out.2.2]; exact HCp.out.2.1
        · show vs.length ≤ c3
          rw [HVl.out.1]; exact HCp.out.2.2
end Go.Proofs.YteeheodcejeloaaGreatDoor

namespace Go.Proofs.YteeheodcejeloaaGreatDoor
open Go.RowKit
/-- The body that stands in a page. -/
abbrev bodyAt (s : ByteArray) (n k : Nat) : ByteArray := s.extract (k + 5) (k + 5 + n)
/-- A page with its right sum. -/
def PgOk (s : ByteArray) (n k : Nat) : Prop := PgAt s n k ∧ Crc.rem (bodyAt s n k).data.toList = sumAt s k
theorem PgOk.fn {s : ByteArray} {n k n' k' : Nat} (h : PgOk s n k) (h' : PgOk s n' k') : n = n' ∧ k = k' := h.1.fn h'.1
/-- Which error a text has that is no page with a right sum. -/
def NoPg (lf : Bool) (s : ByteArray) (sh tx su ev : Value) : Prop :=
  (lf = false ∧ ev = sh) ∨ (lf = true ∧ (¬ ∃ n k, PgAt s n k) ∧ ev = tx) ∨ (lf = true ∧ (∃ n k, PgAt s n k ∧ Crc.rem (bodyAt s n k).data.toList ≠ sumAt s k) ∧ ev = su)
/-- What Read answers. -/
def PrdR (N : Nat) (lid kind mr md : Int) (s : ByteArray) (sh tx su : Value) (e : Ending) (w' : World) : Prop :=
  (∃ ev, NoPg (isLfB kind mr md) s sh tx su ev ∧ e = .returned (.tuple #[.agg #[.int .i64 0, .slice none 0 0, .slice none 0 0, .slice none 0 0], .int .i64 0, ev])) ∨
  (isLfB kind mr md = true ∧ ∃ n k, PgOk s n k ∧
    ((∃ (p d : List Nat) (c : Cl), IsBd lid kind mr.toNat md.toNat (bodyAt s n k) p d c.vs ∧ c.id = lid ∧ c.rs = lvI p ∧ c.ds = lvI d ∧ e = .returned (.tuple #[.agg #[.int .i64 c.id, .slice c.ra c.rs.length c.rc, .slice c.da c.ds.length c.dc, .slice c.va c.vs.length c.vc], .int .i64 ((k + 5 + n : Nat) : Int), .nilIface]) ∧ c.At w' ∧ c.Fr N ∧ c.Cap) ∨
     ((¬ ∃ p d vs, IsBd lid kind mr.toNat md.toNat (bodyAt s n k) p d vs) ∧ e = .returned (.tuple #[.agg #[.int .i64 0, .slice none 0 0, .slice none 0 0, .slice none 0 0], .int .i64 0, tx]))))
/-- What inside answers, in two parts. -/
theorem insR_two {lf : Bool} {s : ByteArray} {sh tx su : Value} {e : Ending} (h : InsR lf s sh tx su e) :
    (∃ ev, NoPg lf s sh tx su ev ∧ e = .returned (.tuple #[.string ⟨#[]⟩, .int .i64 0, ev])) ∨ (lf = true ∧ ∃ n k, PgOk s n k ∧ e = .returned (.tuple #[.string (bodyAt s n k), .int .i64 ((k + 5 + n : Nat) : Int), .nilIface])) := by
  rcases h with ⟨h1, h2⟩ | ⟨h1, h2, h3⟩ | ⟨h1, n, k, h2, h3, h4⟩ | ⟨h1, n, k, h2, h3, h4⟩
  · exact .inl ⟨sh, .inl ⟨h1, rfl⟩, h2⟩
  · exact .inl ⟨tx, .inr (.inl ⟨h1, h2, rfl⟩), h3⟩
  · exact .inl ⟨su, .inr (.inr ⟨h1, ⟨n, k, h2, h3⟩, rfl⟩), h4⟩
  · exact .inr ⟨h1, n, k, ⟨h2, h3⟩, h4⟩
theorem noPg_iface {lf : Bool} {s : ByteArray} {st tt ut : TypeId} {sp tp up ev : Value} (h : NoPg lf s (.iface st sp) (.iface tt tp) (.iface ut up) ev) : ∃ t p, ev = .iface t p := by
  rcases h with ⟨_, h⟩ | ⟨_, _, h⟩ | ⟨_, _, h⟩ <;> exact ⟨_, _, h⟩
theorem isLfB_nat {kind mr md : Int} (h : isLfB kind mr md = true) : (1 ≤ kind ∧ kind ≤ 5) ∧ ∃ m d : Nat, mr = m ∧ md = d ∧ m ≤ 40 ∧ d ≤ 40 := by
  unfold isLfB btw at h
  simp only [Bool.and_eq_true, decide_eq_true_eq] at h
  exact ⟨by omega, mr.toNat, md.toNat, by omega, by omega, by omega, by omega⟩
set_option maxRecDepth 100000 in
set_option maxHeartbeats 6400000 in
theorem pgRead_any (lid kind mr md : Int) (pa : Option Addr) (pn pc : Nat) (s : ByteArray) (hsz : s.size ≤ 300000) (W : World) (st kt bt tt ut : TypeId) (sp kp bp tp up : Value)
    (hs : W.cell? ⟨0, 0, none⟩ = some (.iface st sp)) (hk : W.cell? ⟨4, 0, none⟩ = some (.iface kt kp)) (hbd : W.cell? ⟨3, 0, none⟩ = some (.iface bt bp)) (ht : W.cell? ⟨1, 0, none⟩ = some (.iface tt tp)) (hu : W.cell? ⟨2, 0, none⟩ = some (.iface ut up)) :
    Calls Tryz.prog 8 #[.agg #[.int .i64 lid, .int .i64 kind, .int .i64 mr, .int .i64 md, .slice pa pn pc], .string s] W fun e w' => PrdR W.heap.size lid kind mr md s (.iface st sp) (.iface tt tp) (.iface ut up) e w' ∧ Below W.heap.size W w' := by
  obtain ⟨w0, HW0, HX, HY, HB⟩ := two_boxesP W #[.int .i64 lid, .int .i64 kind, .int .i64 mr, .int .i64 md, .slice pa pn pc] #[.int .i64 0, .slice none 0 0, .slice none 0 0, .slice none 0 0] 34 29
  have ck : ∀ {g : Nat} {v : Value}, W.cell? ⟨g, 0, none⟩ = some v → ∀ X, Below W.heap.size W X → X.cell? ⟨g, 0, none⟩ = some v := fun h X hX => (hX.cell (World.block_lt_of_cell? W _ h)).trans h
  have HS : Hid (∀ X, Below W.heap.size W X → X.cell? ⟨0, 0, none⟩ = some (.iface st sp)) := ck hs
  have HK : Hid (∀ X, Below W.heap.size W X → X.cell? ⟨4, 0, none⟩ = some (.iface kt kp)) := ck hk
  have HBd : Hid (∀ X, Below W.heap.size W X → X.cell? ⟨3, 0, none⟩ = some (.iface bt bp)) := ck hbd
  have HT : Hid (∀ X, Below W.heap.size W X → X.cell? ⟨1, 0, none⟩ = some (.iface tt tp)) := ck ht
  have HIn : Hid (Calls Tryz.prog 20 #[.agg #[.int .i64 lid, .int .i64 kind, .int .i64 mr, .int .i64 md, .slice pa pn pc], .string s] w0 fun e w' => InsR (isLfB kind mr md) s (.iface st sp) (.iface tt tp) (.iface ut up) e ∧ Below w0.heap.size w0 w') := pgIns_any lid kind mr md pa pn pc s hsz w0 st kt bt tt ut sp kp bp tp up (ck hs w0 HB.out) (ck hk w0 HB.out) (ck hbd w0 HB.out) (ck ht w0 HB.out) (ck hu w0 HB.out)
  clear ck hs hk hbd ht hu
  obtain ⟨⟨p0, p1, p2, p3, p4⟩, _⟩ := row_five HX.out
  go_enter Tryz.func8, Tryz.ntmps8
  go_upto_region 1 with fail
  rw [HW0.out]
  go_wp2_with fail
  refine Calls.mono HIn.out ?_
  rintro e w1 ⟨hx, hb1⟩
  have HB1 : Hid (Below W.heap.size W w1) := HB.out.trans (hb1.mono HB.out.size)
  have HX1 : Hid (w1.heap[W.heap.size]? = some (.cells #[.int .i64 lid, .int .i64 kind, .int .i64 mr, .int .i64 md, .slice pa pn pc] 34 (0, 0))) := blk_keep hb1 HX.out
  have HY1 : Hid (w1.heap[W.heap.size + 1]? = some (.cells #[.int .i64 0, .slice none 0 0, .slice none 0 0, .slice none 0 0] 29 (0, 0))) := blk_keep hb1 HY.out
  clear hb1 HX HY HB HW0 HIn p0 p1 p2 p3 p4
  obtain ⟨k0, k1, k2, k3⟩ := row_four HY1.out
  obtain ⟨m0, m1, m2, m3⟩ := row_fourA HY1.out
  rcases insR_two hx with ⟨ev, hno, rfl⟩ | ⟨hlf, n, k, hok, rfl⟩
  · obtain ⟨et, ep, rfl⟩ := noPg_iface hno
    have HNo : Hid (PrdR W.heap.size lid kind mr md s (.iface st sp) (.iface tt tp) (.iface ut up) (.returned (.tuple #[.agg #[.int .i64 0, .slice none 0 0, .slice none 0 0, .slice none 0 0], .int .i64 0, .iface et ep])) ((((w1.setCell ⟨W.heap.size + 1, 0, none⟩ (.int .i64 0)).setCell ⟨W.heap.size + 1, 1, none⟩ (.slice none 0 0)).setCell ⟨W.heap.size + 1, 2, none⟩ (.slice none 0 0)).setCell ⟨W.heap.size + 1, 3, none⟩ (.slice none 0 0))) := .inl ⟨_, hno, rfl⟩
    clear hno hx
    go_wp2
    exact bodyPost_ret (v := .tuple #[.agg #[.int .i64 0, .slice none 0 0, .slice none 0 0, .slice none 0 0], .int .i64 0, .iface et ep]) (results_ctt Tryz.results8 _ _ (W.heap.size + 1) 29 #[.int .i64 0, .slice none 0 0, .slice none 0 0, .slice none 0 0] (0, 0) _ _ _ rfl rfl rfl (row_setCell (row_setCell (row_setCell (row_setCell HY1.out _) _) _) _) Tryz.underlying29 rfl (by kernel_rfl)) rfl ⟨HNo.out, (((HB1.out.setCell (by simp) _).setCell (by simp) _).setCell (by simp) _).setCell (by simp) _⟩
  obtain ⟨⟨hk1, hk5⟩, m, dd, rfl, rfl, hm, hd⟩ := isLfB_nat hlf
  have HLf : Hid (isLfB kind m dd = true) := hlf
  have HOk : Hid (PgOk s n k) := hok
  obtain ⟨u, HU⟩ : ∃ u, Hid (k + 5 + n = u) := ⟨_, rfl⟩
  obtain ⟨bd, HBy⟩ : ∃ b, Hid (bodyAt s n k = b) := ⟨_, rfl⟩
  have hbs : bd.size ≤ 1000000 := by rw [← HBy.out, ByteArray.size_extract]; omega
  rw [HU.out, HBy.out]
  clear hlf hok hx k0 k1 k2 k3 m0 m1 m2 m3
  obtain ⟨⟨p0, p1, p2, p3, p4⟩, _⟩ := row_five HX1.out
  go_wp2_with fail
  refine Calls.mono (readBody_any lid kind m dd pa pn pc bd hbs hk1 hk5 hm hd w1 st kt bt tt sp kp bp tp (HS.out w1 HB1.out) (HK.out w1 HB1.out) (HBd.out w1 HB1.out) (HT.out w1 HB1.out)) ?_
  rintro e w2 ⟨hx, hb2⟩
  have hz1 : W.heap.size + 1 < w1.heap.size := lt_of_block HY1.out
  have HB2 : Hid (Below W.heap.size W w2) := HB1.out.trans (hb2.mono HB1.out.size)
  have HY2 : Hid (w2.heap[W.heap.size + 1]? = some (.cells #[.int .i64 0, .slice none 0 0, .slice none 0 0, .slice none 0 0] 29 (0, 0))) := blk_keep hb2 HY1.out
  clear hb2 HX1 HY1 HB1 p0 p1 p2 p3 p4
  obtain ⟨k0, k1, k2, k3⟩ := row_four HY2.out
  obtain ⟨m0, m1, m2, m3⟩ := row_fourA HY2.out
  rcases hx with ⟨p, d, ⟨cid, cra, crs, crc, cda, cds, cdc, cva, cvs, cvc⟩, hbd, h1, h2, h3, rfl, hat, hfr, hcp⟩ | ⟨hno, rfl⟩
  · have HIs : Hid (IsBd lid kind m dd (bodyAt s n k) p d cvs) := (by show IsBd _ _ _ _ _ _ _ _; rw [HBy.out]; exact hbd)
    have HE : Hid (cid = lid ∧ crs = lvI p ∧ cds = lvI d) := ⟨h1, h2, h3⟩
    have HAt : Hid ((⟨cid, cra, crs, crc, cda, cds, cdc, cva, cvs, cvc⟩ : Cl).At w2) := hat
    have HFr : Hid ((⟨cid, cra, crs, crc, cda, cds, cdc, cva, cvs, cvc⟩ : Cl).Fr w1.heap.size ∧ (⟨cid, cra, crs, crc, cda, cds, cdc, cva, cvs, cvc⟩ : Cl).Cap) := ⟨hfr, hcp⟩
    clear hbd h1 h2 h3 hat hfr hcp
    go_upto_region 5 with fail
    obtain ⟨w3, HW3⟩ : ∃ w, Hid ((((w2.setCell ⟨W.heap.size + 1, 0, none⟩ (.int .i64 cid)).setCell ⟨W.heap.size + 1, 1, none⟩ (.slice cra crs.length crc)).setCell ⟨W.heap.size + 1, 2, none⟩ (.slice cda cds.length cdc)).setCell ⟨W.heap.size + 1, 3, none⟩ (.slice cva cvs.length cvc) = w) := ⟨_, rfl⟩
    have HY3 : Hid (w3.heap[W.heap.size + 1]? = some (.cells #[.int .i64 cid, .slice cra crs.length crc, .slice cda cds.length cdc, .slice cva cvs.length cvc] 29 (0, 0))) := (by show _ = _; rw [← HW3.out]; exact row_setCell (row_setCell (row_setCell (row_setCell HY2.out _) _) _) _)
    have HB3 : Hid (Below W.heap.size W w3) := (by show Below _ _ _; rw [← HW3.out]; exact (((HB2.out.setCell (by simp) _).setCell (by simp) _).setCell (by simp) _).setCell (by simp) _)
    have HA3 : Hid ((⟨cid, cra, crs, crc, cda, cds, cdc, cva, cvs, cvc⟩ : Cl).At w3) := (by show Cl.At _ _; rw [← HW3.out]; exact (((HAt.out.off HFr.out.1 hz1).off HFr.out.1 hz1).off HFr.out.1 hz1).off HFr.out.1 hz1)
    rw [HW3.out]
    clear HW3 HAt HY2 HB2 k0 k1 k2 k3 m0 m1 m2 m3
    obtain ⟨k0, k1, k2, k3⟩ := row_four HY3.out
    obtain ⟨m0, m1, m2, m3⟩ := row_fourA HY3.out
    go_wp2
    refine bodyPost_ret (v := .tuple #[.agg #[.int .i64 cid, .slice cra crs.length crc, .slice cda cds.length cdc, .slice cva cvs.length cvc], .int .i64 ((u : Nat) : Int), .nilIface]) (results_ctt Tryz.results8 _ _ (W.heap.size + 1) 29 #[.int .i64 cid, .slice cra crs.length crc, .slice cda cds.length cdc, .slice cva cvs.length cvc] (0, 0) _ _ _ rfl rfl rfl (row_setCell (row_setCell (row_setCell (row_setCell HY3.out _) _) _) _) Tryz.underlying29 rfl (by kernel_rfl)) rfl ⟨.inr ⟨HLf.out, n, k, HOk.out, .inl ⟨p, d, ⟨cid, cra, crs, crc, cda, cds, cdc, cva, cvs, cvc⟩, HIs.out, HE.out.1, HE.out.2.1, HE.out.2.2, by rw [HU.out], ?_, ?_, HFr.out.2⟩⟩, (((HB3.out.setCell (by simp) _).setCell (by simp) _).setCell (by simp) _).setCell (by simp) _⟩
    · exact (((HA3.out.off HFr.out.1 hz1).off HFr.out.1 hz1).off HFr.out.1 hz1).off HFr.out.1 hz1
    · exact ⟨fun p e => Nat.le_trans (by omega) (HFr.out.1.r p e), fun p e => Nat.le_trans (by omega) (HFr.out.1.d p e), fun p e => Nat.le_trans (by omega) (HFr.out.1.v p e)⟩
  · have HNo : Hid (¬ ∃ p d vs, IsBd lid kind m dd (bodyAt s n k) p d vs) := (by show ¬ _; rw [HBy.out]; exact hno)
    clear hno
    go_wp2
    exact bodyPost_ret (v := .tuple #[.agg #[.int .i64 0, .slice none 0 0, .slice none 0 0, .slice none 0 0], .int .i64 0, .iface tt tp]) (results_ctt Tryz.results8 _ _ (W.heap.size + 1) 29 #[.int .i64 0, .slice none 0 0, .slice none 0 0, .slice none 0 0] (0, 0) _ _ _ rfl rfl rfl (row_setCell (row_setCell (row_setCell (row_setCell (row_setCell (row_setCell (row_setCell (row_setCell HY2.out _) _) _) _) _) _) _) _) Tryz.underlying29 rfl (by kernel_rfl)) rfl ⟨.inr ⟨HLf.out, n, k, HOk.out, .inr ⟨HNo.out, rfl⟩⟩, (((((((HB2.out.setCell (by simp) _).setCell (by simp) _).setCell (by simp) _).setCell (by simp) _).setCell (by simp) _).setCell (by simp) _).setCell (by simp) _).setCell (by simp) _⟩
end Go.Proofs.YteeheodcejeloaaGreatDoor

namespace Go.Proofs.YteeheodcejeloaaGreatDoor
open Go.RowKit
/-- What ReadLong answers. -/
def LongR (s : ByteArray) (e : Ending) : Prop :=
  (∃ n k, LtAt s n k ∧ e = .returned (.tuple #[.string (s.extract k (k + n)), .int .i64 ((k + n : Nat) : Int)])) ∨ ((¬ ∃ n k, LtAt s n k) ∧ e = .returned (.tuple #[.string ⟨#[]⟩, .int .i64 0]))
theorem readLong_x (s : ByteArray) (w : World) (hs : s.size ≤ 3000) : Calls Tryz.prog 27 #[.string s] w fun e w' => LongR s e ∧ w' = w := by
  obtain ⟨n, k, hnk⟩ : ∃ n k, Um.rdv s.data.toList 0 0 = (n, k) := ⟨_, _, rfl⟩
  by_cases h : 0 < k ∧ k + n ≤ s.size
  · refine (readLong_hit s w n k hs hnk h.1 h.2).mono fun e w' hq => ⟨.inl ⟨n, k, ⟨h.1, hnk, h.2⟩, ?_⟩, hq.2⟩
    rw [hq.1, show ((k + n : Nat) : Int) = (k : Int) + n by omega]
  · refine (readLong_miss s w n k hs hnk (by omega)).mono fun e w' hq => ⟨.inr ⟨fun ⟨n', k', h'⟩ => ?_, hq.1⟩, hq.2⟩
    have h1 := h'.rd
    rw [hnk] at h1
    cases h1
    exact h ⟨h'.pos, h'.fit⟩
/-- What the reference's bodyOf answers. -/
def BoR3 (s : ByteArray) (e : Ending) : Prop :=
  ((¬ ∃ n k, PgAt s n k) ∧ e = .returned (.tuple #[.string ⟨#[]⟩, .int .i64 0, .int .i64 1])) ∨
  ((∃ n k, PgAt s n k ∧ Crc.rem (bodyAt s n k).data.toList ≠ sumAt s k) ∧ e = .returned (.tuple #[.string ⟨#[]⟩, .int .i64 0, .int .i64 7])) ∨
  (∃ n k, PgOk s n k ∧ e = .returned (.tuple #[.string (bodyAt s n k), .int .i64 ((k + 5 + n : Nat) : Int), .int .i64 0]))
set_option maxRecDepth 100000 in
set_option maxHeartbeats 3200000 in
theorem bodyOfR_any (s : ByteArray) (W : World) (hsz : s.size ≤ 3000) : Calls Tryz.prog 24 #[.string s] W fun e w' => BoR3 s e ∧ w' = W := by
  by_cases h0 : s.size = 0
  · have hse := ext_zero h0
    subst hse
    have HM : Hid (¬ ∃ n k, PgAt ⟨#[]⟩ n k) := fun ⟨n, k, h⟩ => by obtain ⟨r, h1⟩ := h.mark; cases h1
    go_enter Tryz.func24, Tryz.ntmps24
    go_wp2
    go_ret3
    exact ⟨.inl ⟨HM.out, rfl⟩, rfl⟩
  have hpos : 0 < s.size := by omega
  have hE : s.toList.isEmpty = false := by
    cases hh : s.toList with
    | nil => exact absurd (by have h2 : s.toList.length = 0 := by rw [hh]; rfl
                              rw [ByteArray.toList_eq, Array.length_toList] at h2; exact h2) h0
    | cons _ _ => rfl
  have HC0 : Hid (s.data.toList = s[0] :: s.data.toList.drop 1) := (by
    show _ = _
    have := drop_cons s 0 hpos
    rw [List.drop_zero] at this
    exact this)
  obtain ⟨b, hidx⟩ : ∃ b, s[0] = b := ⟨_, rfl⟩
  rw [hidx] at HC0
  by_cases hb80 : b = 80
  rotate_left
  · have q1 : (((b.toNat : Nat) : Int) != 80) = true := (by
      simp only [bne_iff_ne, ne_eq]
      intro h
      exact hb80 (UInt8.toNat_inj.1 (by show b.toNat = 80; omega)))
    have HM : Hid (¬ ∃ n k, PgAt s n k) := fun ⟨n, k, h⟩ => by
      obtain ⟨r, h1⟩ := h.mark
      rw [HC0.out] at h1
      cases h1
      exact hb80 rfl
    go_enter Tryz.func24, Tryz.ntmps24
    go_wp2
    go_ret3
    exact ⟨.inl ⟨HM.out, rfl⟩, rfl⟩
  subst hb80
  obtain ⟨n, k, hnk⟩ : ∃ n k, Um.rdv (s.extract 1 s.size).data.toList 0 0 = (n, k) := ⟨_, _, rfl⟩
  have hes : (s.extract 1 s.size).size = s.size - 1 := by rw [ByteArray.size_extract]; omega
  have hroom := Um.rdv_room (s.extract 1 s.size).data.toList 0 0 (by decide)
  rw [hnk] at hroom
  have hk : k ≤ s.size - 1 := by have := hroom.2.2; rw [Nat.zero_add, Array.length_toList] at this; rw [← hes]; exact this
  have hn64 : n < 18446744073709551616 := hroom.1
  have HNK : Hid (Um.rdv (s.data.toList.drop 1) 0 0 = (n, k)) := (by show _ = _; rw [← ext_end]; exact hnk)
  have HRd : Hid (Calls Tryz.prog 47 #[.string (s.extract 1 s.size)] W fun e w' => e = .returned (.tuple #[.int .u64 n, .int .i64 k]) ∧ w' = W) := (by
    have h := readSeven_any (s.extract 1 s.size) W (by unfold maxLen; omega)
    rw [hnk] at h
    exact h)
  have h1s : (1 : Int) ≤ (s.size : Int) := by omega
  clear hnk hroom
  by_cases hbad : k = 0 ∨ 200000 < n ∨ s.size < n + k + 5
  · have HM : Hid (¬ ∃ n k, PgAt s n k) := fun ⟨n', k', h⟩ => by
      have h1 := h.rd
      rw [HNK.out] at h1
      cases h1
      have h2 := h.pos
      have h3 := h.fit
      omega
    have hcase : ((k : Int) == 0) = true ∨ (((k : Int) == 0) = false ∧ decide ((200000 : Int) < (n : Int)) = true) ∨ (((k : Int) == 0) = false ∧ decide ((200000 : Int) < (n : Int)) = false ∧ n ≤ 200000 ∧ decide ((s.size : Int) < (n : Int) + (k : Int) + 5) = true) := (by
      by_cases h0 : k = 0
      · left; simp; omega
      · right
        by_cases h1 : n ≤ 200000
        · right; refine ⟨?_, ?_, h1, ?_⟩ <;> (simp; omega)
        · left; refine ⟨?_, ?_⟩ <;> (simp; omega))
    clear hbad
    rcases hcase with hd0 | ⟨hd0, hd1⟩ | ⟨hd0, hd1, hn2, hd2⟩
    all_goals
      go_enter Tryz.func24, Tryz.ntmps24
      go_wp2_with fail
      refine Calls.mono HRd.out ?_
      rintro e w1 ⟨rfl, hw⟩
      obtain rfl := hw.symm
      go_wp2
      go_ret3
      exact ⟨.inl ⟨HM.out, rfl⟩, rfl⟩
  have hk0 : 0 < k := by omega
  have hfit : k + 5 + n ≤ s.size := by omega
  have HAt : Hid (PgAt s n k) := ⟨⟨_, HC0.out⟩, hk0, HNK.out, hfit⟩
  have hd0 : ((k : Int) == 0) = false := by simp; omega
  have hd1 : decide ((200000 : Int) < (n : Int)) = false := by simp; omega
  have hd2 : decide ((s.size : Int) < (n : Int) + (k : Int) + 5) = false := by simp; omega
  have hbs : (bodyAt s n k).size = n := by rw [ByteArray.size_extract]; omega
  have hfs : (s.extract (k + 1) s.size).size = s.size - (k + 1) := by rw [ByteArray.size_extract]; omega
  have HLi : Hid (Calls Tryz.prog 48 #[.string (s.extract (k + 1) s.size), .int .i64 4] W fun e w' => e = .returned (.int .u64 (sumAt s k : Nat)) ∧ w' = W) := (by
    have h := readLittle_any (s.extract (k + 1) s.size) 4 W (by omega) (by omega) (by omega)
    unfold sumAt
    rw [show 1 + k = k + 1 by omega]
    exact h)
  have HRm : Hid (Calls Tryz.prog 49 #[.string (bodyAt s n k)] W fun e w' => e = .returned (.int .u32 (Crc.rem (bodyAt s n k).data.toList : Nat)) ∧ w' = W) := remainder_any _ W (by omega)
  have hrl := Crc.rem_lt (bodyAt s n k).data.toList
  obtain ⟨r, HRr⟩ : ∃ r, Hid (Crc.rem (bodyAt s n k).data.toList = r) := ⟨_, rfl⟩
  rw [HRr.out] at HRm hrl
  have hcr : IntKind.u64.wrap (r : Int) = (r : Int) := by unfold IntKind.wrap IntKind.signed IntKind.bits; simp; omega
  obtain ⟨bd, HBd⟩ : ∃ b, Hid (bodyAt s n k = b) := ⟨_, rfl⟩
  rw [HBd.out] at HRm
  obtain ⟨u, HU⟩ : ∃ u, Hid (k + 5 + n = u) := ⟨_, rfl⟩
  have hui : (n : Int) + (k : Int) + 5 = (u : Int) := by rw [← HU.out]; omega
  have hus : (u : Int) ≤ (s.size : Int) := by rw [← HU.out]; omega
  have hku : (k : Int) + 5 ≤ (u : Int) := by rw [← HU.out]; omega
  have hex : s.extract (k + 5) u = bd := by rw [← HU.out]; exact HBd.out
  have hk1s : (k : Int) + 1 ≤ (s.size : Int) := by omega
  have hnl : n ≤ 200000 := by omega
  clear hbad hfit
  go_enter Tryz.func24, Tryz.ntmps24
  go_wp2_with fail
  refine Calls.mono HRd.out ?_
  rintro e w1 ⟨rfl, hw⟩
  obtain rfl := hw.symm
  go_wp2_with fail
  refine Calls.mono HLi.out ?_
  rintro e w1 ⟨rfl, hw⟩
  obtain rfl := hw.symm
  go_wp2_with fail
  (try rw [hex])
  refine Calls.mono HRm.out ?_
  rintro e w1 ⟨rfl, hw⟩
  obtain rfl := hw.symm
  by_cases hq : r = sumAt s k
  · have q2 : ((sumAt s k : Int) != (r : Int)) = false := by simp [hq]
    have HOk : Hid (PgOk s n k) := ⟨HAt.out, HRr.out.trans hq⟩
    clear hq
    go_wp2
    go_ret3
    exact ⟨.inr (.inr ⟨n, k, HOk.out, by rw [HBd.out, HU.out]; rfl⟩), rfl⟩
  · have q2 : ((sumAt s k : Int) != (r : Int)) = true := by simp; omega
    have HNo : Hid (Crc.rem (bodyAt s n k).data.toList ≠ sumAt s k) := fun h => hq (HRr.out.symm.trans h)
    clear hq
    go_wp2
    go_ret3
    exact ⟨.inr (.inl ⟨⟨n, k, HAt.out, HNo.out⟩, rfl⟩), rfl⟩
/-- Levels behind their length, whatever they are. -/
def LvX (s : ByteArray) (most many n k : Nat) (p : List Nat) : Prop := LtAt s n k ∧ Um.runs (s.extract k (k + n)).data.toList (Lib.bitLen most) many = some (p, n)
/-- What levelsOf answers. -/
def LvoR (N : Nat) (s : ByteArray) (most many : Nat) (e : Ending) (w' : World) : Prop :=
  (∃ n k p a c, LvX s most many n k p ∧ e = .returned (.tuple #[.slice a p.length c, .int .i64 ((k + n : Nat) : Int)]) ∧ Lies w' a (i64s (lvI p)) ∧ Fsh N a) ∨ ((¬ ∃ n k p, LvX s most many n k p) ∧ e = .returned (.tuple #[.slice none 0 0, .int .i64 0]))
set_option maxRecDepth 100000 in
set_option maxHeartbeats 3200000 in
theorem levelsOf_any (s : ByteArray) (most many : Nat) (W : World) (hs : s.size ≤ 3000) (hm : most ≤ 100) (hn : many ≤ 20000) : Calls Tryz.prog 26 #[.string s, .int .i64 (most : Nat), .int .i64 (many : Nat)] W fun e w' => LvoR W.heap.size s most many e w' ∧ Below W.heap.size W w' := by
  have hcv : IntKind.u64.wrap (most : Int) = (most : Int) := by unfold IntKind.wrap IntKind.signed IntKind.bits; simp; omega
  have hwd : Lib.bitLen most ≤ 32 := Lib.bitLen_le _ 32 (by omega) (Nat.lt_of_le_of_lt hm (by decide))
  have HWd : Hid (Calls Tryz.prog 53 #[.int .u64 (most : Nat)] W fun e w' => e = .returned (.int .i64 (Lib.bitLen most : Nat)) ∧ w' = W) := widthOf_any most W (by omega)
  go_enter Tryz.func26, Tryz.ntmps26
  go_wp2_with fail
  refine Calls.mono (readLong_x s W hs) ?_
  rintro e w1 ⟨hx, hw⟩
  obtain rfl := hw.symm
  rcases hx with ⟨n, k, hlt, rfl⟩ | ⟨hno, rfl⟩
  rotate_left
  · have HN : Hid (¬ ∃ n k p, LvX s most many n k p) := fun ⟨n, k, p, h⟩ => hno ⟨n, k, h.1⟩
    clear hno
    go_wp2
    go_ret2
    exact ⟨.inr ⟨HN.out, rfl⟩, Below.refl _ _⟩
  have hkp := hlt.pos
  have hfit := hlt.fit
  have HLt : Hid (LtAt s n k) := hlt
  obtain ⟨u, HU⟩ : ∃ u, Hid (k + n = u) := ⟨_, rfl⟩
  have hu0 : ((u : Int) == 0) = false := by rw [← HU.out]; simp; omega
  have htx : (s.extract k (k + n)).size = n := by rw [ByteArray.size_extract]; omega
  obtain ⟨tx, HTx⟩ : ∃ t, Hid (s.extract k (k + n) = t) := ⟨_, rfl⟩
  rw [HTx.out] at htx
  rw [HU.out] at HTx ⊢
  rw [HTx.out]
  clear hlt
  have htn : tx.size ≤ 3000 := by omega
  have HTn : Hid (tx.size = n) := htx
  clear htx
  go_wp2_with fail
  refine Calls.mono HWd.out ?_
  rintro e w1 ⟨rfl, hw⟩
  obtain rfl := hw.symm
  go_wp2_with fail
  refine Calls.mono (readRunsOf_c tx (Lib.bitLen most) many W htn hwd hn) ?_
  rintro e w2 ⟨hr, hb2⟩
  obtain ⟨rr, HRr⟩ : ∃ rr, Hid (Um.runs tx.data.toList (Lib.bitLen most) many = rr) := ⟨_, rfl⟩
  rw [HRr.out] at hr
  have HLX : Hid (∀ n' k' p, LvX s most many n' k' p → rr = some (p, tx.size)) := fun n' k' p h => (by
    obtain ⟨rfl, rfl⟩ := h.1.fn HLt.out
    have h2 := h.2
    rw [HU.out, HTx.out, HRr.out] at h2
    rw [h2, HTn.out])
  match rr, hr with
  | none, hr =>
    have hr' : e = .returned (.tuple #[.slice none 0 0, .int .i64 (-1)]) := hr
    subst hr'
    have HN : Hid (¬ ∃ n k p, LvX s most many n k p) := fun ⟨n, k, p, h⟩ => by have := HLX.out n k p h; cases this
    have q1 : (((-1 : Int)) != (tx.size : Int)) = true := by first | (simp; done) | (simp; omega)
    clear HLX HRr hr
    go_wp2
    go_ret2
    exact ⟨.inr ⟨HN.out, rfl⟩, hb2⟩
  | some (p, z), hr =>
    obtain ⟨a, c, rfl, hl, hfs⟩ : ∃ a c, e = .returned (.tuple #[.slice a p.length c, .int .i64 z]) ∧ Lies w2 a (nvals p) ∧ ∀ q, a = some q → W.heap.size ≤ q.block := hr
    have HFs : Hid (Fsh W.heap.size a) := hfs
    clear hfs
    have HL : Hid (Lies w2 a (i64s (lvI p))) := hl
    clear hl hr
    by_cases hz : z = tx.size
    · subst hz
      have HX : Hid (LvX s most many n k p) := ⟨HLt.out, by rw [HU.out, HTx.out, HRr.out, HTn.out]⟩
      have q1 : ((tx.size : Int) != (tx.size : Int)) = false := by simp
      clear HLX HRr
      go_wp2
      go_ret2
      exact ⟨.inl ⟨n, k, p, a, c, HX.out, by rw [HU.out]; rfl, HL.out, HFs.out⟩, hb2⟩
    · have HN : Hid (¬ ∃ n k p, LvX s most many n k p) := fun ⟨n, k, p', h⟩ => by
        have := HLX.out n k p' h
        injection this with this
        injection this with _ this
        exact hz this
      have q1 : ((z : Int) != (tx.size : Int)) = true := by simp; omega
      clear HLX HRr
      go_wp2
      go_ret2
      exact ⟨.inr ⟨HN.out, rfl⟩, hb2⟩
end Go.Proofs.YteeheodcejeloaaGreatDoor

namespace Go.Proofs.YteeheodcejeloaaGreatDoor
open Go.RowKit
/-- What ReadStatsOf answers. -/
def RsoR (s : ByteArray) (e : Ending) : Prop :=
  (∃ (t : St) (r : List UInt8), BegS s.data.toList t r ∧ e = .returned (.tuple #[.agg #[.int .i64 t.e, .int .i64 t.u, .bool t.h, .int .i64 t.mn.k, .int .i64 t.mn.n, .string t.mn.s, .int .i64 t.mx.k, .int .i64 t.mx.n, .string t.mx.s], .int .i64 ((stTx t).length : Nat)])) ∨
  (NoS s.data.toList ∧ e = .returned (.tuple #[.agg #[.int .i64 0, .int .i64 0, .bool false, .int .i64 0, .int .i64 0, .string ⟨#[]⟩, .int .i64 0, .int .i64 0, .string ⟨#[]⟩], .int .i64 0]))
theorem LtAt.tx {s : ByteArray} {n k : Nat} (h : LtAt s n k) (hs : s.size ≤ 3000) : TxAt s n k := ⟨h.pos, h.rd, by have := h.fit; omega, h.fit⟩
theorem TxAt.lt {s : ByteArray} {n k : Nat} (h : TxAt s n k) : LtAt s n k := ⟨h.pos, h.rd, h.fit⟩
theorem ext_ext (s : ByteArray) (a b : Nat) (_h : a + b ≤ s.size) : (s.extract a s.size).extract b (s.extract a s.size).size = s.extract (a + b) s.size := by
  have h1 : ((s.extract a s.size).extract b (s.extract a s.size).size).data.toList = (s.extract (a + b) s.size).data.toList := by rw [drop_ext, drop_ext, drop_ext, List.drop_drop]
  rw [← ba_mk ((s.extract a s.size).extract b (s.extract a s.size).size), ← ba_mk (s.extract (a + b) s.size), h1]
/-- Whether there is a value is told by its byte. -/
theorem no_flag {l : List UInt8} {e u : Nat} {b : UInt8} {a : List UInt8} (he : e ≤ 20000) (hu : u ≤ 20000) (hl : l = Um.uv e ++ Um.uv u ++ b :: a) (hb : b.toNat ≤ 1) (hne : decide (b.toNat = 1) ≠ decide (u < e)) : NoS l := fun ⟨t, r, h⟩ => by
  obtain ⟨h1, h2, h3⟩ := beg_cut2 h he hu hl
  have hh := h.1.h
  rw [h1, h2] at hh
  apply hne
  cases hth : t.h with
  | true =>
    rw [stV_true hth] at h3
    injection h3 with h4 _
    subst h4
    rw [hth] at hh
    have h5 : (u : Int) < (e : Int) := by simpa using hh.symm
    have h6 : u < e := by omega
    simp [h6]
  | false =>
    rw [stV_false hth] at h3
    injection h3 with h4 _
    subst h4
    rw [hth] at hh
    have h5 : ¬ (u : Int) < (e : Int) := by simpa using hh.symm
    have h6 : ¬ u < e := by omega
    simp [h6]
theorem beg_no {l : List UInt8} {e u : Nat} {a : List UInt8} (he : e ≤ 20000) (hu : u ≤ e) (hl : l = Um.uv e ++ Um.uv u ++ 0 :: a) (hlt : ¬ u < e) : BegS l ⟨(e : Int), (u : Int), false, Vl.zero, Vl.zero⟩ a ∧ (stTx ⟨(e : Int), (u : Int), false, Vl.zero, Vl.zero⟩).length = (Um.uv e).length + (Um.uv u).length + 1 := by
  have hst : stTx ⟨(e : Int), (u : Int), false, Vl.zero, Vl.zero⟩ = Um.uv e ++ Um.uv u ++ [0] := by
    unfold stTx
    rw [stV_false rfl]
    rfl
  refine ⟨⟨⟨⟨by show (0 : Int) ≤ (e : Int); omega, by show (e : Int) ≤ 20000; omega⟩, ⟨by show (0 : Int) ≤ (u : Int); omega, by show (u : Int) ≤ (e : Int); omega⟩, ?_, fun h => (by cases h), fun h => (by cases h), fun _ => ⟨rfl, rfl⟩⟩, ?_⟩, ?_⟩
  · show false = decide ((u : Int) < (e : Int))
    symm
    rw [decide_eq_false_iff_not]
    omega
  · rw [hst, hl]
    simp
  · rw [hst]
    simp only [List.length_append, List.length_cons, List.length_nil]
theorem beg_yes {l : List UInt8} {e u : Nat} {b : UInt8} {v1 v2 : Vl} {a : List UInt8} (he : e ≤ 20000) (hlt : u < e) (hk : 1 ≤ (b.toNat : Int) ∧ (b.toNat : Int) ≤ 5) (h1 : v1.Ok b.toNat ∧ v1.In) (h2 : v2.Ok b.toNat ∧ v2.In) (hl : l = Um.uv e ++ Um.uv u ++ [1] ++ [b] ++ Um.txt (plainB b.toNat [v1]) ++ Um.txt (plainB b.toNat [v2]) ++ a) (ho : lss v2 v1 = false) :
    BegS l ⟨(e : Int), (u : Int), true, v1, v2⟩ a ∧ stTx ⟨(e : Int), (u : Int), true, v1, v2⟩ = Um.uv e ++ Um.uv u ++ [1] ++ [b] ++ Um.txt (plainB b.toNat [v1]) ++ Um.txt (plainB b.toNat [v2]) := by
  have hk1 : v1.k = (b.toNat : Int) := h1.1.1
  have hbt : Um.bt v1.k = b := by
    rw [hk1]
    apply UInt8.toNat_inj.1
    have := Um.bt_nat (n := b.toNat) b.toNat_lt
    exact this
  have hst : stTx ⟨(e : Int), (u : Int), true, v1, v2⟩ = Um.uv e ++ Um.uv u ++ [1] ++ [b] ++ Um.txt (plainB b.toNat [v1]) ++ Um.txt (plainB b.toNat [v2]) := by
    unfold stTx
    rw [stV_true rfl]
    show Um.uv e ++ Um.uv u ++ (1 :: Um.bt v1.k :: (Um.txt (plainB v1.k [v1]) ++ Um.txt (plainB v1.k [v2]))) = _
    rw [hbt, hk1]
    simp
  refine ⟨⟨⟨⟨by show (0 : Int) ≤ (e : Int); omega, by show (e : Int) ≤ 20000; omega⟩, ⟨by show (0 : Int) ≤ (u : Int); omega, by show (u : Int) ≤ (e : Int); omega⟩, ?_, fun _ => ?_, fun _ => ho, fun h => (by cases h)⟩, ?_⟩, hst⟩
  · show true = decide ((u : Int) < (e : Int))
    symm
    rw [decide_eq_true_eq]
    omega
  · refine ⟨?_, ?_, ?_, ?_, h1.2, h2.2⟩
    · show 1 ≤ v1.k; omega
    · show v1.k ≤ 5; omega
    · show v1.Ok v1.k; rw [hk1]; exact h1.1
    · show v2.Ok v1.k; rw [hk1]; exact h2.1
  · rw [hst, hl]
theorem no_ord {l : List UInt8} {e u : Nat} {b : UInt8} {v1 v2 : Vl} {a : List UInt8} (he : e ≤ 20000) (hu : u ≤ 20000) (hk : 1 ≤ (b.toNat : Int) ∧ (b.toNat : Int) ≤ 5) (h1 : v1.Ok b.toNat ∧ v1.In) (h2 : v2.Ok b.toNat ∧ v2.In) (hl : l = Um.uv e ++ Um.uv u ++ [1] ++ [b] ++ Um.txt (plainB b.toNat [v1]) ++ Um.txt (plainB b.toNat [v2]) ++ a) (ho : lss v2 v1 = true) : NoS l := fun ⟨t, r, h⟩ => by
  obtain ⟨_, _, hh, h3, h4⟩ := beg_two h he hu hk h1 (by rw [hl]; simp only [List.append_assoc] : l = Um.uv e ++ Um.uv u ++ [1] ++ [b] ++ Um.txt (plainB b.toNat [v1]) ++ (Um.txt (plainB b.toNat [v2]) ++ a))
  have hfit := h.1.fit hh
  have hk1 : v1.k = (b.toNat : Int) := h1.1.1
  have hmx : t.mx.Ok b.toNat ∧ t.mx.In := by
    have h5 := hfit.ok2
    rw [h3, hk1] at h5
    exact ⟨h5, hfit.in2⟩
  have hs1 := plain_small hk h2
  have hs2 := plain_small hk hmx
  obtain ⟨h6, _⟩ := txt_cut (by omega) (by omega) h4
  have h7 := plainB_inj (kd := b.toNat) (vs := [v2]) (us := [t.mx]) rfl ⟨hk, fun v hv => by rw [List.mem_singleton] at hv; subst hv; exact h2⟩ ⟨hk, fun v hv => by rw [List.mem_singleton] at hv; subst hv; exact hmx⟩ h6
  injection h7 with h7 _
  have h8 := h.1.ord hh
  rw [h3, ← h7, ho] at h8
  cases h8
end Go.Proofs.YteeheodcejeloaaGreatDoor

namespace Go.Proofs.YteeheodcejeloaaGreatDoor
open Go.RowKit
/-- What ReadStatsOf's boxes hold: nothing answered yet, and what is read. -/
structure SoI (W : World) (e u : Int) (h : Bool) (a b : Vl) (X : World) : Prop where
  re : X.heap[W.heap.size]? = some (.cells #[.int .i64 0, .int .i64 0, .bool false, .int .i64 0, .int .i64 0, .string ⟨#[]⟩, .int .i64 0, .int .i64 0, .string ⟨#[]⟩] 46 (0, 0))
  st : X.heap[W.heap.size + 1]? = some (.cells #[.int .i64 e, .int .i64 u, .bool h, .int .i64 a.k, .int .i64 a.n, .string a.s, .int .i64 b.k, .int .i64 b.n, .string b.s] 46 (0, 0))
  old : Below W.heap.size W X
theorem SoI.keep {W : World} {e u : Int} {h : Bool} {a b : Vl} {X w' : World} (i : SoI W e u h a b X) (hb : Below X.heap.size X w') : SoI W e u h a b w' := ⟨blk_keep hb i.re, blk_keep hb i.st, i.old.trans (hb.mono i.old.size)⟩
theorem SoI.putE {W : World} {e u : Int} {h : Bool} {a b : Vl} {X : World} (i : SoI W e u h a b X) (x : Int) : SoI W x u h a b (X.setCell ⟨W.heap.size + 1, 0, none⟩ (.int .i64 x)) := ⟨blk_other i.re (by omega) _, row_setCell i.st _, i.old.setCell (by simp) _⟩
theorem SoI.putU {W : World} {e u : Int} {h : Bool} {a b : Vl} {X : World} (i : SoI W e u h a b X) (x : Int) : SoI W e x h a b (X.setCell ⟨W.heap.size + 1, 1, none⟩ (.int .i64 x)) := ⟨blk_other i.re (by omega) _, row_setCell i.st _, i.old.setCell (by simp) _⟩
theorem SoI.putH {W : World} {e u : Int} {h : Bool} {a b : Vl} {X : World} (i : SoI W e u h a b X) (x : Bool) : SoI W e u x a b (X.setCell ⟨W.heap.size + 1, 2, none⟩ (.bool x)) := ⟨blk_other i.re (by omega) _, row_setCell i.st _, i.old.setCell (by simp) _⟩
theorem SoI.putA {W : World} {e u : Int} {h : Bool} {a b : Vl} {X : World} (i : SoI W e u h a b X) (v : Vl) : SoI W e u h v b (((X.setCell ⟨W.heap.size + 1, 3, none⟩ (.int .i64 v.k)).setCell ⟨W.heap.size + 1, 4, none⟩ (.int .i64 v.n)).setCell ⟨W.heap.size + 1, 5, none⟩ (.string v.s)) := ⟨blk_other (blk_other (blk_other i.re (by omega) _) (by omega) _) (by omega) _, row_setCell (row_setCell (row_setCell i.st _) _) _, ((i.old.setCell (by simp) _).setCell (by simp) _).setCell (by simp) _⟩
theorem SoI.putB {W : World} {e u : Int} {h : Bool} {a b : Vl} {X : World} (i : SoI W e u h a b X) (v : Vl) : SoI W e u h a v (((X.setCell ⟨W.heap.size + 1, 6, none⟩ (.int .i64 v.k)).setCell ⟨W.heap.size + 1, 7, none⟩ (.int .i64 v.n)).setCell ⟨W.heap.size + 1, 8, none⟩ (.string v.s)) := ⟨blk_other (blk_other (blk_other i.re (by omega) _) (by omega) _) (by omega) _, row_setCell (row_setCell (row_setCell i.st _) _) _, ((i.old.setCell (by simp) _).setCell (by simp) _).setCell (by simp) _⟩
set_option maxRecDepth 100000 in
set_option maxHeartbeats 12800000 in
theorem readStatsOf_any (s : ByteArray) (hs : s.size ≤ 3000) (W : World) : Calls Tryz.prog 25 #[.string s] W fun e w' => RsoR s e ∧ Below W.heap.size W w' := by
  obtain ⟨w0, HW0, HX, HY, HB⟩ := two_boxesP W #[.int .i64 0, .int .i64 0, .bool false, .int .i64 0, .int .i64 0, .string ⟨#[]⟩, .int .i64 0, .int .i64 0, .string ⟨#[]⟩] #[.int .i64 0, .int .i64 0, .bool false, .int .i64 0, .int .i64 0, .string ⟨#[]⟩, .int .i64 0, .int .i64 0, .string ⟨#[]⟩] 46 46
  have HI0 : Hid (SoI W 0 0 false Vl.zero Vl.zero w0) := ⟨HX.out, HY.out, HB.out⟩
  clear HX HY HB
  obtain ⟨e, k, hek⟩ : ∃ n k, Um.rdv s.data.toList 0 0 = (n, k) := ⟨_, _, rfl⟩
  have hroom := Um.rdv_room s.data.toList 0 0 (by decide)
  rw [hek] at hroom
  have hks : k ≤ s.size := by have := hroom.2.2; rw [Nat.zero_add, Array.length_toList] at this; exact this
  have he64 : e < 18446744073709551616 := hroom.1
  have HEK : Hid (Um.rdv s.data.toList 0 0 = (e, k)) := hek
  have HR1 : Hid (∀ X : World, Calls Tryz.prog 47 #[.string s] X fun e' w' => e' = .returned (.tuple #[.int .u64 e, .int .i64 k]) ∧ w' = X) := fun X => (by
    have h := readSeven_any s X (by unfold maxLen; omega)
    rw [hek] at h
    exact h)
  clear hek hroom
  obtain ⟨⟨r0, r1, r2, r3, r4, r5, r6, r7, r8⟩, f0, f1, f2, f3, f4, f5, f6, f7, f8⟩ := row_nine HI0.out.re
  obtain ⟨⟨t0, t1, t2, t3, t4, t5, t6, t7, t8⟩, g0, g1, g2, g3, g4, g5, g6, g7, g8⟩ := row_nine HI0.out.st
  go_enter Tryz.func25, Tryz.ntmps25
  go_upto_region 2 with fail
  rw [HW0.out]
  go_wp2_with fail
  refine Calls.mono (HR1.out w0) ?_
  rintro e' w1 ⟨rfl, hw⟩
  obtain rfl := hw.symm
  by_cases hbad : k = 0 ∨ 20000 < e
  · have HNo : Hid (NoS s.data.toList) := no_e fun n' k' hk' h => by
      rw [HEK.out] at h
      cases h
      omega
    have hcase : ((k : Int) == 0) = true ∨ (((k : Int) == 0) = false ∧ decide ((20000 : Int) < (e : Int)) = true) := (by
      by_cases h0 : k = 0
      · left; simp; omega
      · right; refine ⟨?_, ?_⟩ <;> (simp; omega))
    clear hbad
    rcases hcase with q1 | ⟨q1, q2⟩
    all_goals
      go_wp2
      exact bodyPost_ret (v := .tuple #[.agg #[.int .i64 0, .int .i64 0, .bool false, .int .i64 0, .int .i64 0, .string ⟨#[]⟩, .int .i64 0, .int .i64 0, .string ⟨#[]⟩], .int .i64 0]) (results_cR Tryz.results25 _ _ W.heap.size 46 #[.int .i64 0, .int .i64 0, .bool false, .int .i64 0, .int .i64 0, .string ⟨#[]⟩, .int .i64 0, .int .i64 0, .string ⟨#[]⟩] (0, 0) _ _ rfl rfl (set9_row HI0.out.re _ _ _ _ _ _ _ _ _) Tryz.underlying46 rfl (by kernel_rfl)) rfl ⟨.inr ⟨HNo.out, rfl⟩, set9_below HI0.out.old (by omega) _ _ _ _ _ _ _ _ _⟩
  have hk0 : 0 < k := by omega
  have he : e ≤ 20000 := by omega
  have q1 : ((k : Int) == 0) = false := by simp; omega
  have q2 : decide ((20000 : Int) < (e : Int)) = false := by simp; omega
  have HF1 : Hid (Fc s.data.toList (Um.uv e) (s.extract k s.size) false) := fc_e hk0 HEK.out
  have hkl : (k : Int) ≤ (s.size : Int) := by omega
  obtain ⟨u, k2, huk⟩ : ∃ n k', Um.rdv (s.extract k s.size).data.toList 0 0 = (n, k') := ⟨_, _, rfl⟩
  have hz1 : (s.extract k s.size).size = s.size - k := by rw [ByteArray.size_extract]; omega
  have hroom := Um.rdv_room (s.extract k s.size).data.toList 0 0 (by decide)
  rw [huk] at hroom
  have hk2s : k + k2 ≤ s.size := by have := hroom.2.2; rw [Nat.zero_add, Array.length_toList] at this; have h2 : k2 ≤ (s.extract k s.size).size := this; omega
  have hu64 : u < 18446744073709551616 := hroom.1
  have HUK : Hid (Um.rdv (s.extract k s.size).data.toList 0 0 = (u, k2)) := huk
  have HR2 : Hid (∀ X : World, Calls Tryz.prog 47 #[.string (s.extract k s.size)] X fun e' w' => e' = .returned (.tuple #[.int .u64 u, .int .i64 k2]) ∧ w' = X) := fun X => (by
    have h := readSeven_any (s.extract k s.size) X (by unfold maxLen; omega)
    rw [huk] at h
    exact h)
  clear huk hroom hbad HR1
  go_wp2_with fail
  refine Calls.mono (HR2.out w0) ?_
  rintro e' w1 ⟨rfl, hw⟩
  obtain rfl := hw.symm
  by_cases hbad : k2 = 0 ∨ e < u
  · have HNo : Hid (NoS s.data.toList) := no_u he HF1.out fun n' k' hk' h => by
      rw [HUK.out] at h
      cases h
      omega
    have hcase : ((k2 : Int) == 0) = true ∨ (((k2 : Int) == 0) = false ∧ decide (e < u) = true) := (by
      by_cases h0 : k2 = 0
      · left; simp; omega
      · right; refine ⟨?_, ?_⟩ <;> (simp; omega))
    clear hbad
    rcases hcase with q3 | ⟨q3, q4⟩
    all_goals
      go_wp2
      exact bodyPost_ret (v := .tuple #[.agg #[.int .i64 0, .int .i64 0, .bool false, .int .i64 0, .int .i64 0, .string ⟨#[]⟩, .int .i64 0, .int .i64 0, .string ⟨#[]⟩], .int .i64 0]) (results_cR Tryz.results25 _ _ W.heap.size 46 #[.int .i64 0, .int .i64 0, .bool false, .int .i64 0, .int .i64 0, .string ⟨#[]⟩, .int .i64 0, .int .i64 0, .string ⟨#[]⟩] (0, 0) _ _ rfl rfl (set9_row HI0.out.re _ _ _ _ _ _ _ _ _) Tryz.underlying46 rfl (by kernel_rfl)) rfl ⟨.inr ⟨HNo.out, rfl⟩, set9_below HI0.out.old (by omega) _ _ _ _ _ _ _ _ _⟩
  have hk20 : 0 < k2 := by omega
  have hu : u ≤ e := by omega
  have q3 : ((k2 : Int) == 0) = false := by simp; omega
  have q4 : decide (e < u) = false := by simp; omega
  obtain ⟨a, HA⟩ : ∃ a, Hid (k + k2 = a) := ⟨_, rfl⟩
  have hai : (k : Int) + (k2 : Int) = (a : Int) := by rw [← HA.out]; omega
  have HF2 : Hid (Fc s.data.toList (Um.uv e ++ Um.uv u) (s.extract a s.size) false) := (by
    have h := fc_u HF1.out hk20 HUK.out
    rw [ext_ext s k k2 hk2s, HA.out] at h
    exact h)
  have hlen : (Um.uv e).length = k ∧ (Um.uv u).length = k2 := (by
    have h1 := Um.rdv_whole e (s.data.toList.drop k) he64
    rw [← rdv_cut hk0 HEK.out, HEK.out] at h1
    have h2 := Um.rdv_whole u ((s.extract k s.size).data.toList.drop k2) hu64
    rw [← rdv_cut hk20 HUK.out, HUK.out] at h2
    injection h1 with _ h1
    injection h2 with _ h2
    exact ⟨h1.symm, h2.symm⟩)
  have HLn : Hid ((Um.uv e).length + (Um.uv u).length = a) := (by show _ = _; rw [hlen.1, hlen.2]; exact HA.out)
  have has : a ≤ s.size := by rw [← HA.out]; exact hk2s
  clear hlen hbad HF1 HR2 hk2s HA
  by_cases hend : s.size ≤ a
  · have q5 : decide ((s.size : Int) ≤ (a : Int)) = true := by simp; omega
    have q5n : decide (s.size ≤ a) = true := by simp; omega
    have HNo : Hid (NoS s.data.toList) := no_h he (by omega) HF2.out fun b r h => (by
      have h2 := congrArg List.length h
      rw [Array.length_toList] at h2
      have h3 : (s.extract a s.size).size = (b :: r).length := h2
      rw [ByteArray.size_extract, List.length_cons] at h3
      omega)
    clear hend
    go_wp2
    exact bodyPost_ret (v := .tuple #[.agg #[.int .i64 0, .int .i64 0, .bool false, .int .i64 0, .int .i64 0, .string ⟨#[]⟩, .int .i64 0, .int .i64 0, .string ⟨#[]⟩], .int .i64 0]) (results_cR Tryz.results25 _ _ W.heap.size 46 #[.int .i64 0, .int .i64 0, .bool false, .int .i64 0, .int .i64 0, .string ⟨#[]⟩, .int .i64 0, .int .i64 0, .string ⟨#[]⟩] (0, 0) _ _ rfl rfl (set9_row HI0.out.re _ _ _ _ _ _ _ _ _) Tryz.underlying46 rfl (by kernel_rfl)) rfl ⟨.inr ⟨HNo.out, rfl⟩, set9_below HI0.out.old (by omega) _ _ _ _ _ _ _ _ _⟩
  have hal : a < s.size := by omega
  have q5 : decide ((s.size : Int) ≤ (a : Int)) = false := by simp; omega
  have q5n : decide (s.size ≤ a) = false := by simp; omega
  have HCb : Hid ((s.extract a s.size).data.toList = s[a] :: s.data.toList.drop (a + 1)) := (by show _ = _; rw [drop_ext]; exact drop_cons s a hal)
  obtain ⟨b, hidx⟩ : ∃ b, s[a] = b := ⟨_, rfl⟩
  rw [hidx] at HCb
  have hb8 := b.toNat_lt
  clear hend
  by_cases hb1 : 1 < b.toNat
  · have q6 : decide ((1 : Int) < (b.toNat : Int)) = true := by simp; omega
    have q6n : decide (1 < b.toNat) = true := by simp; omega
    have HNo : Hid (NoS s.data.toList) := no_h he (by omega) HF2.out fun b' r h => (by
      rw [HCb.out] at h
      cases h
      exact .inr hb1)
    clear hb1
    go_wp2
    exact bodyPost_ret (v := .tuple #[.agg #[.int .i64 0, .int .i64 0, .bool false, .int .i64 0, .int .i64 0, .string ⟨#[]⟩, .int .i64 0, .int .i64 0, .string ⟨#[]⟩], .int .i64 0]) (results_cR Tryz.results25 _ _ W.heap.size 46 #[.int .i64 0, .int .i64 0, .bool false, .int .i64 0, .int .i64 0, .string ⟨#[]⟩, .int .i64 0, .int .i64 0, .string ⟨#[]⟩] (0, 0) _ _ rfl rfl (set9_row HI0.out.re _ _ _ _ _ _ _ _ _) Tryz.underlying46 rfl (by kernel_rfl)) rfl ⟨.inr ⟨HNo.out, rfl⟩, set9_below HI0.out.old (by omega) _ _ _ _ _ _ _ _ _⟩
  have q6 : decide ((1 : Int) < (b.toNat : Int)) = false := by simp; omega
  have q6n : decide (1 < b.toNat) = false := by simp; omega
  have hwe : IntKind.i64.wrap (e : Int) = (e : Int) := by rw [IntKind.wrap_i64]; omega
  have hwu : IntKind.i64.wrap (u : Int) = (u : Int) := by rw [IntKind.wrap_i64]; omega
  have HL2 : Hid (s.data.toList = Um.uv e ++ Um.uv u ++ b :: s.data.toList.drop (a + 1)) := (by
    rcases HF2.out with ⟨h, _⟩ | ⟨_, h⟩
    · cases h
    · rw [HCb.out] at h
      exact h)
  obtain ⟨hf, HHf⟩ : ∃ h : Bool, Hid (h = decide (b.toNat = 1)) := ⟨_, rfl⟩
  have hqf : (((b.toNat : Nat) : Int) == 1) = hf := (by
    rw [HHf.out, Bool.eq_iff_iff, beq_iff_eq, decide_eq_true_eq]
    omega)
  have HI1 : Hid (SoI W (e : Int) (u : Int) hf Vl.zero Vl.zero (((w0.setCell ⟨W.heap.size + 1, 0, none⟩ (.int .i64 (e : Int))).setCell ⟨W.heap.size + 1, 1, none⟩ (.int .i64 (u : Int))).setCell ⟨W.heap.size + 1, 2, none⟩ (.bool hf))) := ((HI0.out.putE e).putU u).putH hf
  go_upto_region 14 with fail
  generalize (((w0.setCell ⟨W.heap.size + 1, 0, none⟩ (.int .i64 (e : Int))).setCell ⟨W.heap.size + 1, 1, none⟩ (.int .i64 (u : Int))).setCell ⟨W.heap.size + 1, 2, none⟩ (.bool hf)) = w1 at HI1 ⊢
  clear r0 r1 r2 r3 r4 r5 r6 r7 r8 f0 f1 f2 f3 f4 f5 f6 f7 f8 t0 t1 t2 t3 t4 t5 t6 t7 t8 g0 g1 g2 g3 g4 g5 g6 g7 g8 HI0 HW0
  obtain ⟨⟨r0, r1, r2, r3, r4, r5, r6, r7, r8⟩, f0, f1, f2, f3, f4, f5, f6, f7, f8⟩ := row_nine HI1.out.re
  obtain ⟨⟨t0, t1, t2, t3, t4, t5, t6, t7, t8⟩, g0, g1, g2, g3, g4, g5, g6, g7, g8⟩ := row_nine HI1.out.st
  obtain ⟨d, hd⟩ : ∃ d : Bool, decide (u < e) = d := ⟨_, rfl⟩
  have HD : Hid (d = decide (u < e)) := hd.symm
  have hn1 : ∀ X : World, Sem.run Tryz.prog (binOp .neq 4 (.bool true) (.bool true)) X = .ok (.bool false) X := fun _ => by kernel_rfl
  have hn2 : ∀ X : World, Sem.run Tryz.prog (binOp .neq 4 (.bool true) (.bool false)) X = .ok (.bool true) X := fun _ => by kernel_rfl
  have hn3 : ∀ X : World, Sem.run Tryz.prog (binOp .neq 4 (.bool false) (.bool true)) X = .ok (.bool true) X := fun _ => by kernel_rfl
  have hn4 : ∀ X : World, Sem.run Tryz.prog (binOp .neq 4 (.bool false) (.bool false)) X = .ok (.bool false) X := fun _ => by kernel_rfl
  clear hqf q1 q2 q3 q4 q5 q5n q6 q6n
  by_cases hm : hf = d
  rotate_left
  · have HNo : Hid (NoS s.data.toList) := no_flag he (by omega) HL2.out (by omega) (by rw [← HHf.out, ← HD.out]; exact hm)
    cases hf <;> cases d <;> first | exact absurd rfl hm | skip
    all_goals
      clear hm
      go_wp2
      exact bodyPost_ret (v := .tuple #[.agg #[.int .i64 0, .int .i64 0, .bool false, .int .i64 0, .int .i64 0, .string ⟨#[]⟩, .int .i64 0, .int .i64 0, .string ⟨#[]⟩], .int .i64 0]) (results_cR Tryz.results25 _ _ W.heap.size 46 #[.int .i64 0, .int .i64 0, .bool false, .int .i64 0, .int .i64 0, .string ⟨#[]⟩, .int .i64 0, .int .i64 0, .string ⟨#[]⟩] (0, 0) _ _ rfl rfl (set9_row HI1.out.re _ _ _ _ _ _ _ _ _) Tryz.underlying46 rfl (by kernel_rfl)) rfl ⟨.inr ⟨HNo.out, rfl⟩, set9_below HI1.out.old (by omega) _ _ _ _ _ _ _ _ _⟩
  subst hm
  cases hf with
  | false =>
    have HB0 : Hid (BegS s.data.toList ⟨(e : Int), (u : Int), false, Vl.zero, Vl.zero⟩ (s.data.toList.drop (a + 1)) ∧ (stTx ⟨(e : Int), (u : Int), false, Vl.zero, Vl.zero⟩).length = a + 1) := (by
      have hb0 : b = 0 := (by
        have h1 : ¬ b.toNat = 1 := by simpa using HHf.out.symm
        exact UInt8.toNat_inj.1 (by show b.toNat = 0; omega))
      have h2 : ¬ u < e := by simpa using HD.out.symm
      have hl := HL2.out
      rw [hb0] at hl
      have h := beg_no he hu hl h2
      exact ⟨h.1, by rw [h.2, HLn.out]⟩)
    go_wp2
    exact bodyPost_ret (v := .tuple #[.agg #[.int .i64 (e : Int), .int .i64 (u : Int), .bool false, .int .i64 0, .int .i64 0, .string ⟨#[]⟩, .int .i64 0, .int .i64 0, .string ⟨#[]⟩], .int .i64 ((a : Int) + 1)]) (results_cR Tryz.results25 _ _ W.heap.size 46 #[.int .i64 (e : Int), .int .i64 (u : Int), .bool false, .int .i64 0, .int .i64 0, .string ⟨#[]⟩, .int .i64 0, .int .i64 0, .string ⟨#[]⟩] (0, 0) _ _ rfl rfl (set9_row HI1.out.re _ _ _ _ _ _ _ _ _) Tryz.underlying46 rfl (by kernel_rfl)) rfl ⟨.inl ⟨_, _, HB0.out.1, by rw [HB0.out.2]; rfl⟩, set9_below HI1.out.old (by omega) _ _ _ _ _ _ _ _ _⟩
  | true =>
    have hb1' : b = 1 := (by
      have h1 : b.toNat = 1 := by simpa using HHf.out.symm
      exact UInt8.toNat_inj.1 (by show b.toNat = 1; omega))
    have hlt : u < e := by simpa using HD.out.symm
    have HF3 : Hid (Fc s.data.toList (Um.uv e ++ Um.uv u ++ [1]) (s.extract (a + 1) s.size) false) := (by
      have h := fc_b HF2.out HCb.out
      rw [ext_ext s a 1 (by omega), hb1'] at h
      exact h)
    clear hb1 hb1' HHf HD HCb HL2 HF2
    by_cases hend : s.size ≤ a + 1
    · have q5 : decide ((s.size : Int) ≤ (a : Int) + 1) = true := by simp; omega
      have HNo : Hid (NoS s.data.toList) := no_k he (by omega) HF3.out fun b r h => (by
        have h2 := congrArg List.length h
        rw [Array.length_toList] at h2
        have h3 : (s.extract (a + 1) s.size).size = (b :: r).length := h2
        rw [ByteArray.size_extract, List.length_cons] at h3
        omega)
      clear hend
      go_wp2
      exact bodyPost_ret (v := .tuple #[.agg #[.int .i64 0, .int .i64 0, .bool false, .int .i64 0, .int .i64 0, .string ⟨#[]⟩, .int .i64 0, .int .i64 0, .string ⟨#[]⟩], .int .i64 0]) (results_cR Tryz.results25 _ _ W.heap.size 46 #[.int .i64 0, .int .i64 0, .bool false, .int .i64 0, .int .i64 0, .string ⟨#[]⟩, .int .i64 0, .int .i64 0, .string ⟨#[]⟩] (0, 0) _ _ rfl rfl (set9_row HI1.out.re _ _ _ _ _ _ _ _ _) Tryz.underlying46 rfl (by kernel_rfl)) rfl ⟨.inr ⟨HNo.out, rfl⟩, set9_below HI1.out.old (by omega) _ _ _ _ _ _ _ _ _⟩
    have q5 : decide ((s.size : Int) ≤ (a : Int) + 1) = false := by simp; omega
    have hal1 : a + 1 < s.size := by omega
    have HCb : Hid ((s.extract (a + 1) s.size).data.toList = s[a + 1] :: s.data.toList.drop (a + 2)) := (by show _ = _; rw [drop_ext]; exact drop_cons s (a + 1) hal1)
    obtain ⟨b2, hidx2⟩ : ∃ b, s[a + 1] = b := ⟨_, rfl⟩
    rw [hidx2] at HCb
    have hb28 := b2.toNat_lt
    clear hend
    by_cases hkb : b2.toNat < 1 ∨ 5 < b2.toNat
    · have HNo : Hid (NoS s.data.toList) := no_k he (by omega) HF3.out fun b' r h => (by
        rw [HCb.out] at h
        cases h
        exact hkb)
      have hcase : (decide ((b2.toNat : Int) < 1) = true ∧ decide (b2.toNat < 1) = true) ∨ ((decide ((b2.toNat : Int) < 1) = false ∧ decide (b2.toNat < 1) = false) ∧ decide ((5 : Int) < (b2.toNat : Int)) = true ∧ decide (5 < b2.toNat) = true) := (by
        by_cases h0 : b2.toNat < 1
        · left; refine ⟨?_, ?_⟩ <;> (simp; omega)
        · right; refine ⟨⟨?_, ?_⟩, ?_, ?_⟩ <;> (simp; omega))
      clear hkb
      rcases hcase with ⟨q6, q6n⟩ | ⟨⟨q6, q6n⟩, q7, q7n⟩
      all_goals
        go_wp2
        exact bodyPost_ret (v := .tuple #[.agg #[.int .i64 0, .int .i64 0, .bool false, .int .i64 0, .int .i64 0, .string ⟨#[]⟩, .int .i64 0, .int .i64 0, .string ⟨#[]⟩], .int .i64 0]) (results_cR Tryz.results25 _ _ W.heap.size 46 #[.int .i64 0, .int .i64 0, .bool false, .int .i64 0, .int .i64 0, .string ⟨#[]⟩, .int .i64 0, .int .i64 0, .string ⟨#[]⟩] (0, 0) _ _ rfl rfl (set9_row HI1.out.re _ _ _ _ _ _ _ _ _) Tryz.underlying46 rfl (by kernel_rfl)) rfl ⟨.inr ⟨HNo.out, rfl⟩, set9_below HI1.out.old (by omega) _ _ _ _ _ _ _ _ _⟩
    have q6 : decide ((b2.toNat : Int) < 1) = false := by simp; omega
    have q6n : decide (b2.toNat < 1) = false := by simp; omega
    have q7 : decide ((5 : Int) < (b2.toNat : Int)) = false := by simp; omega
    have q7n : decide (5 < b2.toNat) = false := by simp; omega
    have hk15 : 1 ≤ (b2.toNat : Int) ∧ (b2.toNat : Int) ≤ 5 := by omega
    have HF4 : Hid (Fc s.data.toList (Um.uv e ++ Um.uv u ++ [1] ++ [b2]) (s.extract (a + 2) s.size) false) := (by
      have h := fc_b HF3.out HCb.out
      rw [ext_ext s (a + 1) 1 (by omega)] at h
      exact h)
    have hwb : IntKind.i64.wrap (b2.toNat : Int) = (b2.toNat : Int) := by rw [IntKind.wrap_i64]; omega
    have hw64 : wrap64 (b2.toNat : Int) = (b2.toNat : Int) := by unfold wrap64; omega
    clear hkb HF3 HCb
    obtain ⟨A0, HA0⟩ : ∃ x, Hid (a + 2 = x) := ⟨_, rfl⟩
    have hA0 : (a : Int) + 1 + 1 = (A0 : Int) := by rw [← HA0.out]; omega
    have hA0' : (a : Int) + 2 = (A0 : Int) := by rw [← HA0.out]; omega
    have hAs0 : A0 ≤ s.size := by rw [← HA0.out]; omega
    rw [HA0.out] at HF4
    go_wp2
    refine wp_loop_rounds 3 ?_
    -- round 1
    obtain ⟨s1, HS1⟩ : ∃ x, Hid (s.extract A0 s.size = x) := ⟨_, rfl⟩
    have hsz1 : s1.size = s.size - A0 := by rw [← HS1.out, ByteArray.size_extract]; omega
    have hex1 : s.extract A0 s.size = s1 := HS1.out
    rw [HS1.out] at HF4
    have hal1 : (A0 : Int) ≤ (s.size : Int) := by omega
    rw [rounds_succ]
    go_wp2_with fail
    (try rw [hex1])
    refine Calls.mono (readLong_x s1 w1 (by omega)) ?_
    rintro e' wq1 ⟨hx, hw⟩
    obtain rfl := hw.symm
    rcases hx with ⟨n1, k1', hlt1, rfl⟩ | ⟨hno, rfl⟩
    rotate_left
    · have HNo : Hid (NoS s.data.toList) := no_v1 he (by omega) HF4.out fun ⟨n', k', v', h⟩ => hno ⟨n', k', h.1.lt⟩
      clear hno
      go_wp2
      exact bodyPost_ret (v := .tuple #[.agg #[.int .i64 0, .int .i64 0, .bool false, .int .i64 0, .int .i64 0, .string ⟨#[]⟩, .int .i64 0, .int .i64 0, .string ⟨#[]⟩], .int .i64 0]) (results_cR Tryz.results25 _ _ W.heap.size 46 #[.int .i64 0, .int .i64 0, .bool false, .int .i64 0, .int .i64 0, .string ⟨#[]⟩, .int .i64 0, .int .i64 0, .string ⟨#[]⟩] (0, 0) _ _ rfl rfl (set9_row HI1.out.re _ _ _ _ _ _ _ _ _) Tryz.underlying46 rfl (by kernel_rfl)) rfl ⟨.inr ⟨HNo.out, rfl⟩, set9_below HI1.out.old (by omega) _ _ _ _ _ _ _ _ _⟩
    have hkp1 := hlt1.pos
    have hfit1 := hlt1.fit
    have HLt1 : Hid (LtAt s1 n1 k1') := hlt1
    obtain ⟨j1, HJ1⟩ : ∃ j, Hid (k1' + n1 = j) := ⟨_, rfl⟩
    have hj1 : ((j1 : Int) == 0) = false := by rw [← HJ1.out]; simp; omega
    have hjs1 : A0 + j1 ≤ s.size := by rw [← HJ1.out]; omega
    obtain ⟨x1, HX1⟩ : ∃ x, Hid (s1.extract k1' (k1' + n1) = x) := ⟨_, rfl⟩
    have hxs1 : x1.size ≤ 3000 := by rw [← HX1.out, ByteArray.size_extract]; omega
    rw [HX1.out, HJ1.out]
    clear hlt1 hkp1 hfit1
    go_wp2_with fail
    refine Calls.mono (plOf_any (b2.toNat : Int) x1 1 w1 hxs1 (by omega) hk15.1 hk15.2) ?_
    rintro e' wp1 ⟨hx, hbp1⟩
    have HI2p : Hid (SoI W (e : Int) (u : Int) true Vl.zero Vl.zero wp1) := HI1.out.keep hbp1
    rcases hx with ⟨vs, va, vc, hpl, rfl, hlv⟩ | ⟨hno, xa, xn, xc, rfl⟩
    rotate_left
    · have HNo : Hid (NoS s.data.toList) := no_v1 he (by omega) HF4.out fun ⟨n', k', v', h⟩ => hno ⟨[v'], (by
        obtain ⟨rfl, rfl⟩ := h.1.lt.fn HLt1.out
        rw [← HX1.out]
        exact h.2)⟩
      clear hno r0 r1 r2 r3 r4 r5 r6 r7 r8 f0 f1 f2 f3 f4 f5 f6 f7 f8 t0 t1 t2 t3 t4 t5 t6 t7 t8 g0 g1 g2 g3 g4 g5 g6 g7 g8
      obtain ⟨⟨r0, r1, r2, r3, r4, r5, r6, r7, r8⟩, f0, f1, f2, f3, f4, f5, f6, f7, f8⟩ := row_nine HI2p.out.re
      go_wp2
      exact bodyPost_ret (v := .tuple #[.agg #[.int .i64 0, .int .i64 0, .bool false, .int .i64 0, .int .i64 0, .string ⟨#[]⟩, .int .i64 0, .int .i64 0, .string ⟨#[]⟩], .int .i64 0]) (results_cR Tryz.results25 _ _ W.heap.size 46 #[.int .i64 0, .int .i64 0, .bool false, .int .i64 0, .int .i64 0, .string ⟨#[]⟩, .int .i64 0, .int .i64 0, .string ⟨#[]⟩] (0, 0) _ _ rfl rfl (set9_row HI2p.out.re _ _ _ _ _ _ _ _ _) Tryz.underlying46 rfl (by kernel_rfl)) rfl ⟨.inr ⟨HNo.out, rfl⟩, set9_below HI2p.out.old (by omega) _ _ _ _ _ _ _ _ _⟩
    obtain ⟨v1, rfl⟩ : ∃ v, vs = [v] := (by
      have := hpl.1
      match vs, this with
      | [v], _ => exact ⟨v, rfl⟩)
    have HVl1 : Hid (VlAt s1 (b2.toNat : Int) n1 k1' v1) := ⟨HLt1.out.tx (by omega), by rw [HX1.out]; exact hpl⟩
    obtain ⟨vb, vo, rfl, c0, c1, c2⟩ := hlv 0 (by simp)
    rw [Nat.zero_mul, Nat.add_zero] at c0 c1 c2
    have c0' : wp1.cell? ⟨vb, vo, none⟩ = some (.int .i64 v1.k) := c0
    have c1' : wp1.cell? ⟨vb, vo + 1, none⟩ = some (.int .i64 v1.n) := c1
    have c2' : wp1.cell? ⟨vb, vo + 2, none⟩ = some (.string v1.s) := c2
    have HOk1 : Hid (v1.Ok b2.toNat ∧ v1.In) := (isPl_one hpl).1
    clear c0 c1 c2 hlv hpl r0 r1 r2 r3 r4 r5 r6 r7 r8 f0 f1 f2 f3 f4 f5 f6 f7 f8 t0 t1 t2 t3 t4 t5 t6 t7 t8 g0 g1 g2 g3 g4 g5 g6 g7 g8
    obtain ⟨⟨t0, t1, t2, t3, t4, t5, t6, t7, t8⟩, g0, g1, g2, g3, g4, g5, g6, g7, g8⟩ := row_nine HI2p.out.st
    have HF5 : Hid (Fc s.data.toList (Um.uv e ++ Um.uv u ++ [1] ++ [b2] ++ Um.txt (plainB b2.toNat [v1])) (s.extract (A0 + j1) s.size) false) := (by
      have h := fc_v HF4.out HVl1.out
      rw [← HS1.out, HJ1.out, ext_ext s A0 j1 (by omega)] at h
      exact h)
    have HI2 : Hid (SoI W (e : Int) (u : Int) true v1 Vl.zero (((wp1.setCell ⟨W.heap.size + 1, 3, none⟩ (.int .i64 v1.k)).setCell ⟨W.heap.size + 1, 4, none⟩ (.int .i64 v1.n)).setCell ⟨W.heap.size + 1, 5, none⟩ (.string v1.s))) := HI2p.out.putA v1
    obtain ⟨A1, HA1⟩ : ∃ x, Hid (A0 + j1 = x) := ⟨_, rfl⟩
    have hA1 : (A0 : Int) + (j1 : Int) = (A1 : Int) := by rw [← HA1.out]; omega
    have hAs1 : A1 ≤ s.size := by rw [← HA1.out]; exact hjs1
    rw [HA1.out] at HF5
    go_wp2
    generalize (((wp1.setCell ⟨W.heap.size + 1, 3, none⟩ (.int .i64 v1.k)).setCell ⟨W.heap.size + 1, 4, none⟩ (.int .i64 v1.n)).setCell ⟨W.heap.size + 1, 5, none⟩ (.string v1.s)) = wn1 at HI2 ⊢
    clear c0' c1' c2' t0 t1 t2 t3 t4 t5 t6 t7 t8 g0 g1 g2 g3 g4 g5 g6 g7 g8 HI2p
    obtain ⟨⟨r0, r1, r2, r3, r4, r5, r6, r7, r8⟩, f0, f1, f2, f3, f4, f5, f6, f7, f8⟩ := row_nine HI2.out.re
    obtain ⟨⟨t0, t1, t2, t3, t4, t5, t6, t7, t8⟩, g0, g1, g2, g3, g4, g5, g6, g7, g8⟩ := row_nine HI2.out.st
    -- round 2
    obtain ⟨s2, HS2⟩ : ∃ x, Hid (s.extract A1 s.size = x) := ⟨_, rfl⟩
    have hsz2 : s2.size = s.size - A1 := by rw [← HS2.out, ByteArray.size_extract]; omega
    have hex2 : s.extract A1 s.size = s2 := HS2.out
    rw [HS2.out] at HF5
    have hal2 : (A1 : Int) ≤ (s.size : Int) := by omega
    rw [rounds_succ]
    go_wp2_with fail
    (try rw [hex2])
    refine Calls.mono (readLong_x s2 wn1 (by omega)) ?_
    rintro e' wq2 ⟨hx, hw⟩
    obtain rfl := hw.symm
    rcases hx with ⟨n2, k2', hlt2, rfl⟩ | ⟨hno, rfl⟩
    rotate_left
    · have HNo : Hid (NoS s.data.toList) := no_v2 he (by omega) hk15 HOk1.out HF5.out fun ⟨n', k', v', h⟩ => hno ⟨n', k', h.1.lt⟩
      clear hno
      go_wp2
      exact bodyPost_ret (v := .tuple #[.agg #[.int .i64 0, .int .i64 0, .bool false, .int .i64 0, .int .i64 0, .string ⟨#[]⟩, .int .i64 0, .int .i64 0, .string ⟨#[]⟩], .int .i64 0]) (results_cR Tryz.results25 _ _ W.heap.size 46 #[.int .i64 0, .int .i64 0, .bool false, .int .i64 0, .int .i64 0, .string ⟨#[]⟩, .int .i64 0, .int .i64 0, .string ⟨#[]⟩] (0, 0) _ _ rfl rfl (set9_row HI2.out.re _ _ _ _ _ _ _ _ _) Tryz.underlying46 rfl (by kernel_rfl)) rfl ⟨.inr ⟨HNo.out, rfl⟩, set9_below HI2.out.old (by omega) _ _ _ _ _ _ _ _ _⟩
    have hkp2 := hlt2.pos
    have hfit2 := hlt2.fit
    have HLt2 : Hid (LtAt s2 n2 k2') := hlt2
    obtain ⟨j2, HJ2⟩ : ∃ j, Hid (k2' + n2 = j) := ⟨_, rfl⟩
    have hj2 : ((j2 : Int) == 0) = false := by rw [← HJ2.out]; simp; omega
    have hjs2 : A1 + j2 ≤ s.size := by rw [← HJ2.out]; omega
    obtain ⟨x2, HX2⟩ : ∃ x, Hid (s2.extract k2' (k2' + n2) = x) := ⟨_, rfl⟩
    have hxs2 : x2.size ≤ 3000 := by rw [← HX2.out, ByteArray.size_extract]; omega
    rw [HX2.out, HJ2.out]
    clear hlt2 hkp2 hfit2
    go_wp2_with fail
    refine Calls.mono (plOf_any (b2.toNat : Int) x2 1 wn1 hxs2 (by omega) hk15.1 hk15.2) ?_
    rintro e' wp2 ⟨hx, hbp2⟩
    have HI3p : Hid (SoI W (e : Int) (u : Int) true v1 Vl.zero wp2) := HI2.out.keep hbp2
    rcases hx with ⟨vs, va, vc, hpl, rfl, hlv⟩ | ⟨hno, xa, xn, xc, rfl⟩
    rotate_left
    · have HNo : Hid (NoS s.data.toList) := no_v2 he (by omega) hk15 HOk1.out HF5.out fun ⟨n', k', v', h⟩ => hno ⟨[v'], (by
        obtain ⟨rfl, rfl⟩ := h.1.lt.fn HLt2.out
        rw [← HX2.out]
        exact h.2)⟩
      clear hno r0 r1 r2 r3 r4 r5 r6 r7 r8 f0 f1 f2 f3 f4 f5 f6 f7 f8 t0 t1 t2 t3 t4 t5 t6 t7 t8 g0 g1 g2 g3 g4 g5 g6 g7 g8
      obtain ⟨⟨r0, r1, r2, r3, r4, r5, r6, r7, r8⟩, f0, f1, f2, f3, f4, f5, f6, f7, f8⟩ := row_nine HI3p.out.re
      go_wp2
      exact bodyPost_ret (v := .tuple #[.agg #[.int .i64 0, .int .i64 0, .bool false, .int .i64 0, .int .i64 0, .string ⟨#[]⟩, .int .i64 0, .int .i64 0, .string ⟨#[]⟩], .int .i64 0]) (results_cR Tryz.results25 _ _ W.heap.size 46 #[.int .i64 0, .int .i64 0, .bool false, .int .i64 0, .int .i64 0, .string ⟨#[]⟩, .int .i64 0, .int .i64 0, .string ⟨#[]⟩] (0, 0) _ _ rfl rfl (set9_row HI3p.out.re _ _ _ _ _ _ _ _ _) Tryz.underlying46 rfl (by kernel_rfl)) rfl ⟨.inr ⟨HNo.out, rfl⟩, set9_below HI3p.out.old (by omega) _ _ _ _ _ _ _ _ _⟩
    obtain ⟨v2, rfl⟩ : ∃ v, vs = [v] := (by
      have := hpl.1
      match vs, this with
      | [v], _ => exact ⟨v, rfl⟩)
    have HVl2 : Hid (VlAt s2 (b2.toNat : Int) n2 k2' v2) := ⟨HLt2.out.tx (by omega), by rw [HX2.out]; exact hpl⟩
    obtain ⟨vb, vo, rfl, c0, c1, c2⟩ := hlv 0 (by simp)
    rw [Nat.zero_mul, Nat.add_zero] at c0 c1 c2
    have c0' : wp2.cell? ⟨vb, vo, none⟩ = some (.int .i64 v2.k) := c0
    have c1' : wp2.cell? ⟨vb, vo + 1, none⟩ = some (.int .i64 v2.n) := c1
    have c2' : wp2.cell? ⟨vb, vo + 2, none⟩ = some (.string v2.s) := c2
    have HOk2 : Hid (v2.Ok b2.toNat ∧ v2.In) := (isPl_one hpl).1
    clear c0 c1 c2 hlv hpl r0 r1 r2 r3 r4 r5 r6 r7 r8 f0 f1 f2 f3 f4 f5 f6 f7 f8 t0 t1 t2 t3 t4 t5 t6 t7 t8 g0 g1 g2 g3 g4 g5 g6 g7 g8
    obtain ⟨⟨t0, t1, t2, t3, t4, t5, t6, t7, t8⟩, g0, g1, g2, g3, g4, g5, g6, g7, g8⟩ := row_nine HI3p.out.st
    have HF6 : Hid (Fc s.data.toList (Um.uv e ++ Um.uv u ++ [1] ++ [b2] ++ Um.txt (plainB b2.toNat [v1]) ++ Um.txt (plainB b2.toNat [v2])) (s.extract (A1 + j2) s.size) false) := (by
      have h := fc_v HF5.out HVl2.out
      rw [← HS2.out, HJ2.out, ext_ext s A1 j2 (by omega)] at h
      exact h)
    have HI3 : Hid (SoI W (e : Int) (u : Int) true v1 v2 (((wp2.setCell ⟨W.heap.size + 1, 6, none⟩ (.int .i64 v2.k)).setCell ⟨W.heap.size + 1, 7, none⟩ (.int .i64 v2.n)).setCell ⟨W.heap.size + 1, 8, none⟩ (.string v2.s))) := HI3p.out.putB v2
    obtain ⟨A2, HA2⟩ : ∃ x, Hid (A1 + j2 = x) := ⟨_, rfl⟩
    have hA2 : (A1 : Int) + (j2 : Int) = (A2 : Int) := by rw [← HA2.out]; omega
    have hAs2 : A2 ≤ s.size := by rw [← HA2.out]; exact hjs2
    rw [HA2.out] at HF6
    go_wp2
    generalize (((wp2.setCell ⟨W.heap.size + 1, 6, none⟩ (.int .i64 v2.k)).setCell ⟨W.heap.size + 1, 7, none⟩ (.int .i64 v2.n)).setCell ⟨W.heap.size + 1, 8, none⟩ (.string v2.s)) = wn2 at HI3 ⊢
    clear c0' c1' c2' t0 t1 t2 t3 t4 t5 t6 t7 t8 g0 g1 g2 g3 g4 g5 g6 g7 g8 HI3p
    obtain ⟨⟨r0, r1, r2, r3, r4, r5, r6, r7, r8⟩, f0, f1, f2, f3, f4, f5, f6, f7, f8⟩ := row_nine HI3.out.re
    obtain ⟨⟨t0, t1, t2, t3, t4, t5, t6, t7, t8⟩, g0, g1, g2, g3, g4, g5, g6, g7, g8⟩ := row_nine HI3.out.st
    rw [rounds_succ]
    go_wp2_with fail
    refine Calls.mono (lessOf_any v2.k v2.n v2.s v1.k v1.n v1.s wn2 HOk2.out.2.2.1.1 HOk1.out.2.2.1.1) ?_
    rintro e' wl ⟨rfl, hbl⟩
    have HI4 : Hid (SoI W (e : Int) (u : Int) true v1 v2 wl) := HI3.out.keep hbl
    clear hbl r0 r1 r2 r3 r4 r5 r6 r7 r8 f0 f1 f2 f3 f4 f5 f6 f7 f8 t0 t1 t2 t3 t4 t5 t6 t7 t8 g0 g1 g2 g3 g4 g5 g6 g7 g8
    obtain ⟨⟨r0, r1, r2, r3, r4, r5, r6, r7, r8⟩, f0, f1, f2, f3, f4, f5, f6, f7, f8⟩ := row_nine HI4.out.re
    obtain ⟨⟨t0, t1, t2, t3, t4, t5, t6, t7, t8⟩, g0, g1, g2, g3, g4, g5, g6, g7, g8⟩ := row_nine HI4.out.st
    have HLs : Hid (s.data.toList = Um.uv e ++ Um.uv u ++ [1] ++ [b2] ++ Um.txt (plainB b2.toNat [v1]) ++ Um.txt (plainB b2.toNat [v2]) ++ (s.extract A2 s.size).data.toList) := (by
      rcases HF6.out with ⟨h, _⟩ | ⟨_, h⟩
      · cases h
      · exact h)
    obtain ⟨lb, HLb⟩ : ∃ x, Hid (vless v2.k v2.n v2.s v1.k v1.n v1.s = x) := ⟨_, rfl⟩
    rw [HLb.out]
    cases lb with
    | true =>
      have HNo : Hid (NoS s.data.toList) := no_ord he (by omega) hk15 HOk1.out HOk2.out HLs.out HLb.out
      go_wp2
      exact bodyPost_ret (v := .tuple #[.agg #[.int .i64 0, .int .i64 0, .bool false, .int .i64 0, .int .i64 0, .string ⟨#[]⟩, .int .i64 0, .int .i64 0, .string ⟨#[]⟩], .int .i64 0]) (results_cR Tryz.results25 _ _ W.heap.size 46 #[.int .i64 0, .int .i64 0, .bool false, .int .i64 0, .int .i64 0, .string ⟨#[]⟩, .int .i64 0, .int .i64 0, .string ⟨#[]⟩] (0, 0) _ _ rfl rfl (set9_row HI4.out.re _ _ _ _ _ _ _ _ _) Tryz.underlying46 rfl (by kernel_rfl)) rfl ⟨.inr ⟨HNo.out, rfl⟩, set9_below HI4.out.old (by omega) _ _ _ _ _ _ _ _ _⟩
    | false =>
      have HBg : Hid (BegS s.data.toList ⟨(e : Int), (u : Int), true, v1, v2⟩ (s.extract A2 s.size).data.toList ∧ (stTx ⟨(e : Int), (u : Int), true, v1, v2⟩).length = A2) := (by
        have h := beg_yes he hlt hk15 HOk1.out HOk2.out HLs.out HLb.out
        refine ⟨h.1, ?_⟩
        rw [h.2]
        have h2 := congrArg List.length HLs.out
        rw [List.length_append, drop_ext, List.length_drop, Array.length_toList] at h2
        have h3 : s.data.size = s.size := rfl
        omega)
      go_wp2
      exact bodyPost_ret (v := .tuple #[.agg #[.int .i64 (e : Int), .int .i64 (u : Int), .bool true, .int .i64 v1.k, .int .i64 v1.n, .string v1.s, .int .i64 v2.k, .int .i64 v2.n, .string v2.s], .int .i64 ((A2 : Nat) : Int)]) (results_cR Tryz.results25 _ _ W.heap.size 46 #[.int .i64 (e : Int), .int .i64 (u : Int), .bool true, .int .i64 v1.k, .int .i64 v1.n, .string v1.s, .int .i64 v2.k, .int .i64 v2.n, .string v2.s] (0, 0) _ _ rfl rfl (set9_row HI4.out.re _ _ _ _ _ _ _ _ _) Tryz.underlying46 rfl (by kernel_rfl)) rfl ⟨.inl ⟨_, _, HBg.out.1, by rw [HBg.out.2]⟩, set9_below HI4.out.old (by omega) _ _ _ _ _ _ _ _ _⟩
end Go.Proofs.YteeheodcejeloaaGreatDoor
