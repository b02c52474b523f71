/-
  The walk of the law StatsMay.
  Two columns, joined: what the law StatsBounds asks of it.
-/
import Derived.Test.YthlnjnoeaicjjaaDoorQBStMyB
import Derived.Test.YthlnjnoeaicjjaaDoorQBLess
import Derived.Test.YthlnjnoeaicjjaaDoorQBStEn
import Derived.Test.YthlnjnoeaicjjaaDoorQStMy
import Derived.Test.YthlnjnoeaicjjaaDoorQBStMg
import Derived.Test.YthlnjnoeaicjjaaDoorQBOpenColB
import Derived.Test.YthlnjnoeaicjjaaDoorQStBd
import Derived.Test.YthlnjnoeaicjjaaDoorQBOpenCol
namespace Go.Proofs.YthlnjnoeaicjjaaDoor
open Go.RowKit
/-- What the law's boxes hold. -/
structure LyI (W : World) (s : St) (v : Vl) (X : World) : Prop where
  st : X.heap[W.heap.size]? = some (.cells #[.int .i64 s.e, .int .i64 s.u, .bool s.h, .int .i64 s.mn.k, .int .i64 s.mn.n, .string s.mn.s, .int .i64 s.mx.k, .int .i64 s.mx.n, .string s.mx.s] 25 (0, 0))
  va : X.heap[W.heap.size + 1]? = some (.cells #[.int .i64 v.k, .int .i64 v.n, .string v.s] 23 (0, 0))
  old : Below W.heap.size W X
theorem LyI.keep {W : World} {s : St} {v : Vl} {X w' : World} (h : LyI W s v X) (hb : Below X.heap.size X w') : LyI W s v w' :=
  ⟨blk_keep hb h.st, blk_keep hb h.va, h.old.trans (hb.mono h.old.size)⟩
theorem which (how : ByteArray) : (∃ i, i < 6 ∧ how = stdT i) ∨ ∀ i, i < 6 → how ≠ stdT i := by
  by_cases h : ∃ i, i < 6 ∧ how = stdT i
  · exact .inl h
  · exact .inr fun i hi e => h ⟨i, hi, e⟩
end Go.Proofs.YthlnjnoeaicjjaaDoor

namespace Go.Proofs.YthlnjnoeaicjjaaDoor
open Go.RowKit
theorem badV_rv {kind : Int} {v : Vl} (h : badV kind v = false) (hl : v.Low) : Rv kind v := by
  rw [badV_okV] at h
  exact ⟨by simpa using h, hl⟩
theorem GoodC.rv {lid kind mr md : Int} {c : Cl} (h : GoodC lid kind mr md c) (hl : ∀ v ∈ c.vs, v.Low) : ∀ y ∈ c.vs, Rv kind y := fun y hy => by
  obtain ⟨j, hj, rfl⟩ := List.mem_iff_getElem.1 hy
  exact badV_rv (h.2 j hj) (hl _ hy)
theorem good_app {lid kind mr md : Int} {a b k : Cl} (ha : GoodC lid kind mr md a) (hb : GoodC lid kind mr md b) (h0 : k.id = lid) (h1 : k.rs = a.rs ++ b.rs) (h2 : k.ds = a.ds ++ b.ds) (h3 : k.vs = a.vs ++ b.vs) : GoodC lid kind mr md k := by
  have fa := ha.1
  have fb := hb.1
  rw [Bool.and_eq_true, fitB_iff] at fa fb
  obtain ⟨l1, _, a2, a3, a4, a5, a6⟩ := fa
  obtain ⟨_, _, b2, b3, b4, b5, b6⟩ := fb
  refine ⟨?_, fun j hj => ?_⟩
  · rw [Bool.and_eq_true, fitB_iff]
    refine ⟨l1, h0, by rw [h1, h2]; simp [a2, b2], ?_, ?_, ?_, ?_⟩
    · rw [h1]
      match hr : a.rs with
      | [] => simpa using b3
      | x :: xs => rw [hr] at a3; simpa [headB] using a3
    · intro x hx
      rw [h1] at hx
      rcases List.mem_append.1 hx with h | h
      · exact a4 x h
      · exact b4 x h
    · intro x hx
      rw [h2] at hx
      rcases List.mem_append.1 hx with h | h
      · exact a5 x h
      · exact b5 x h
    · rw [h3, h2, List.length_append, cntE_app, a6, b6]
  · have hm : k.vs[j] ∈ a.vs ++ b.vs := by rw [← h3]; exact List.getElem_mem _
    rcases List.mem_append.1 hm with h | h
    · obtain ⟨i, hi, e⟩ := List.mem_iff_getElem.1 h
      rw [← e]; exact ha.2 i hi
    · obtain ⟨i, hi, e⟩ := List.mem_iff_getElem.1 h
      rw [← e]; exact hb.2 i hi
theorem Vl.zero_in : Vl.zero.In := by unfold Vl.zero Vl.In; exact ⟨by simp, by simp, by simp [ByteArray.size]⟩
theorem ofK_in (c : Cl) (h : ∀ v ∈ c.vs, v.In) : ∀ i, i ≤ c.vs.length → (ofK c i).mn.In ∧ (ofK c i).mx.In
  | 0, _ => ⟨Vl.zero_in, Vl.zero_in⟩
  | i + 1, hi => by
    rw [ofK_succ c hi]
    have hx := h c.vs[i] (List.getElem_mem _)
    obtain ⟨h1, h2⟩ := ofK_in c h i (by omega)
    unfold St.around
    refine ⟨?_, ?_⟩
    · show Vl.In (if _ then _ else _)
      split
      · exact hx
      · exact h1
    · show Vl.In (if _ then _ else _)
      split
      · exact hx
      · exact h2
theorem ofC_in (c : Cl) (h : ∀ v ∈ c.vs, v.In) (h1 : c.rs.length ≤ 1048576) (h2 : c.vs.length ≤ 1048576) : (ofC c).In := by
  have e : ofK c c.vs.length = ofC c := by unfold ofK ofC; rw [List.take_length]
  obtain ⟨h3, h4⟩ := ofK_in c h c.vs.length (Nat.le_refl _)
  obtain ⟨h5, h6⟩ := ofC_eu c
  rw [e] at h3 h4
  exact ⟨by rw [h5]; omega, by rw [h6]; omega, h3, h4⟩
/-- Does some value stand so? -/
def anyB (i : Nat) (l : List Vl) (v : Vl) : Bool := l.any fun x => stdB i x v
theorem anyB_succ (i : Nat) (l : List Vl) (v : Vl) {n : Nat} (h : n < l.length) : anyB i (l.take (n + 1)) v = (anyB i (l.take n) v || stdB i l[n] v) := by
  unfold anyB
  rw [List.take_succ_eq_append_getElem h, List.any_append]
  simp
theorem liesC_two {w : World} {g t : Nat} {a b : Cl} (h : w.heap[g]? = some (.cells #[.int .i64 a.id, .slice a.ra a.rs.length a.rc, .slice a.da a.ds.length a.dc, .slice a.va a.vs.length a.vc, .int .i64 b.id, .slice b.ra b.rs.length b.rc, .slice b.da b.ds.length b.dc, .slice b.va b.vs.length b.vc] t (0, 0))) (ha : a.At w) (hb : b.At w) : LiesC w (some ⟨g, 0, none⟩) [a, b] := fun j hj => by
  have hj2 : j < 2 := by simpa using hj
  match j, hj2 with
  | 0, _ => exact ⟨⟨g, 0, rfl, by simp [World.cell?, h], by simp [World.cell?, h], by simp [World.cell?, h], by simp [World.cell?, h]⟩, ha⟩
  | 1, _ => exact ⟨⟨g, 0, rfl, by simp [World.cell?, h], by simp [World.cell?, h], by simp [World.cell?, h], by simp [World.cell?, h]⟩, hb⟩
theorem zCl_at (w : World) : zCl.At w := ⟨fun j h => absurd h (by simp [zCl, i64s]), fun j h => absurd h (by simp [zCl, i64s]), fun j h => absurd h (by simp [zCl])⟩
theorem zCl_fr (N : Nat) : zCl.Fr N := ⟨fun p h => (by simp [zCl] at h), fun p h => (by simp [zCl] at h), fun p h => (by simp [zCl] at h)⟩
theorem two_snd (w : World) (c c' : Obj) : ((w.alloc c).alloc c').heap[w.heap.size + 1]? = some c' := by
  have h := heap_alloc_new (w.alloc c) c'
  rwa [show (w.alloc c).heap.size = w.heap.size + 1 by simp] at h
/-- No error, and this; or an error. -/
def OkOr (y : Value) (P : Prop) : Prop := (y = .nilIface ∧ P) ∨ ∃ t p, y = .iface t p
/-- What Join of two answers. -/
def J2 (lid : Int) (a b k : Cl) (ev : Value) : Prop := OkOr ev (k.Cap ∧ k.id = lid ∧ k.rs = a.rs ++ b.rs ∧ k.ds = a.ds ++ b.ds ∧ k.vs = a.vs ++ b.vs)
theorem join_two (lid kind mr md : Int) (pa : Option Addr) (pn pc g t : Nat) (a b k1 k2 : Cl) (W : World) (t1 t2 t3 : TypeId) (p1 p2 p3 : Value)
    (hra : a.rs.length ≤ 2000) (hda : a.ds.length ≤ 2000) (hva : a.vs.length ≤ 2000) (hrb : b.rs.length ≤ 2000) (hdb : b.ds.length ≤ 2000) (hvb : b.vs.length ≤ 2000)
    (hs : W.cell? ⟨3, 0, none⟩ = some (.iface t1 p1)) (hk : W.cell? ⟨1, 0, none⟩ = some (.iface t2 p2)) (hbd : W.cell? ⟨2, 0, none⟩ = some (.iface t3 p3)) (h1 : k1.At W) (h2 : k2.At W) (s1 : SameC a k1) (s2 : SameC b k2) (hg : W.heap[g]? = some (.cells #[.int .i64 k1.id, .slice k1.ra k1.rs.length k1.rc, .slice k1.da k1.ds.length k1.dc, .slice k1.va k1.vs.length k1.vc, .int .i64 k2.id, .slice k2.ra k2.rs.length k2.rc, .slice k2.da k2.ds.length k2.dc, .slice k2.va k2.vs.length k2.vc] t (0, 0))) :
    Calls Tryd.prog 17 #[.agg #[.int .i64 lid, .int .i64 kind, .int .i64 mr, .int .i64 md, .slice pa pn pc], .slice (some ⟨g, 0, none⟩) 2 2] W fun e w' => (∃ (k : Cl) (ev : Value), e = .returned (.tuple #[.agg #[.int .i64 k.id, .slice k.ra k.rs.length k.rc, .slice k.da k.ds.length k.dc, .slice k.va k.vs.length k.vc], ev]) ∧ k.At w' ∧ k.Fr W.heap.size ∧ J2 lid a b k ev) ∧ Below W.heap.size W w' := by
  refine (join_cap lid kind mr md pa pn pc (some ⟨g, 0, none⟩) 2 [k1, k2] W t1 t2 t3 p1 p2 p3 (by simp) (by simp [jR, s1.rs, s2.rs]; omega) (by simp [jD, s1.ds, s2.ds]; omega) (by simp [jV, s1.vs, s2.vs]; omega) (fun j hj => ?_) hs hk hbd (liesC_two hg h1 h2)).mono fun e w' h => ⟨?_, h.2⟩
  · have hj2 : j < 2 := by simpa using hj
    match j, hj2 with
    | 0, _ => exact ⟨by simp [s1.rs]; omega, by simp [s1.ds]; omega, by simp [s1.vs]; omega⟩
    | 1, _ => exact ⟨by simp [s2.rs]; omega, by simp [s2.ds]; omega, by simp [s2.vs]; omega⟩
  · rcases h.1 with ⟨i, hi, _, hb⟩ | ⟨_, _, h1⟩ | ⟨_, _, k, h1, h2, h3, h4, h5, h6, h7, h8⟩
    · rcases hb with ⟨_, h1⟩ | ⟨_, p, hp, _, _, q, _, h1, _⟩
      · exact ⟨zCl, _, h1, zCl_at _, zCl_fr _, .inr ⟨_, _, rfl⟩⟩
      · exact ⟨zCl, _, h1, zCl_at _, zCl_fr _, .inr ⟨_, _, rfl⟩⟩
    · exact ⟨zCl, _, h1, zCl_at _, zCl_fr _, .inr ⟨_, _, rfl⟩⟩
    · exact ⟨k, _, h1, h2, h8, .inl ⟨rfl, h7, h3, by rw [h4]; simp [jR, s1.rs, s2.rs], by rw [h5]; simp [jD, s1.ds, s2.ds], by rw [h6]; simp [jV, s1.vs, s2.vs]⟩⟩
end Go.Proofs.YthlnjnoeaicjjaaDoor
