/-
  What Shred leaves, as columns that lie somewhere.
  The reference's OwnColumn, told of a column.
  The reference's OwnColumn, told of a column; OwnColumns.
-/
import Derived.Test.YtbicfjimlpdnkaaGreatDoorHBColOf
import Derived.Test.YtbicfjimlpdnkaaGreatDoorHBColO
import Derived.Test.YtbicfjimlpdnkaaGreatDoorHLvX
import Derived.Test.YtbicfjimlpdnkaaGreatDoorHSmall
namespace Go.Proofs.YtbicfjimlpdnkaaGreatDoor
open Go.RowKit
instance : Inhabited Cl := ⟨⟨0, none, [], 0, none, [], 0, none, [], 0⟩⟩
/-- A column of a place, told as rows. -/
theorem ColQ.cl {W : World} {N : Nat} {c : Col} {q : Value × Value × Value} (h : ColQ W N c q) : ∃ k : Cl, k.id = c.id ∧ k.rs = c.reps ∧ k.ds = c.defs ∧ k.vs = c.vals ∧ k.Cap ∧ k.At W ∧ q = (.slice k.ra k.rs.length k.rc, .slice k.da k.ds.length k.dc, .slice k.va k.vs.length k.vc) := by
  obtain ⟨hr, hd, hv⟩ := h
  obtain ⟨q1, q2, q3⟩ := q
  obtain ⟨ra, rc, rfl⟩ := own_sl hr
  obtain ⟨da, dc, rfl⟩ := own_sl hd
  obtain ⟨va', vc', e, hlv⟩ := liesV_own hv
  have e' : q3 = .slice va' c.vals.length vc' := e
  subst e'
  exact ⟨⟨c.id, ra, c.reps, rc, da, c.defs, dc, va', c.vals, vc'⟩, rfl, rfl, rfl, rfl, ⟨(own_cap hr).2, (own_cap hd).2, (own_cap hv).2⟩, ⟨own_liesX hr, own_liesX hd, hlv⟩, rfl⟩
theorem zip4_at : ∀ (cs : List Col) (qs : List (Value × Value × Value)) (j i : Nat), qs.length = cs.length → i < 4 → ∀ (h : j < cs.length) (h' : j < qs.length), ((List.zipWith colC cs qs).flatten)[j * 4 + i]? = (colC cs[j] qs[j])[i]?
  | [], _, j, _, _, _, h, _ => by simp at h
  | _ :: _, [], j, _, _, _, _, h' => by simp at h'
  | c :: cs, q :: qs, 0, i, _, hi, _, _ => by
    rw [List.zipWith_cons_cons, List.flatten_cons, List.getElem?_append_left (by simp [colC]; omega)]
    simp
  | c :: cs, q :: qs, j + 1, i, hl, hi, h, h' => by
    rw [List.zipWith_cons_cons, List.flatten_cons, List.getElem?_append_right (by simp [colC]; omega), show (j + 1) * 4 + i - (colC c q).length = j * 4 + i by simp [colC]; omega]
    simpa using zip4_at cs qs j i (by simpa using hl) hi (by simpa using h) (by simpa using h')
/-- All columns, told as rows. -/
theorem ColR.cls {W : World} {N : Nat} {ov : Value} {cs : List Col} (h : ColR W N ov cs) : ∃ (a : Option Addr) (c : Nat) (ks : List Cl), ks.length = cs.length ∧ ov = .slice a ks.length c ∧ LiesC W a ks ∧ ∀ j (h : j < ks.length) (h' : j < cs.length), ks[j].id = cs[j].id ∧ ks[j].rs = cs[j].reps ∧ ks[j].ds = cs[j].defs ∧ ks[j].vs = cs[j].vals ∧ ks[j].Cap := by
  obtain ⟨qs, hl, hr, hq⟩ := h
  have each : ∀ i, i < cs.length → ∃ k : Cl, (∀ (h : i < cs.length) (h' : i < qs.length), (k.id = cs[i].id ∧ k.rs = cs[i].reps ∧ k.ds = cs[i].defs ∧ k.vs = cs[i].vals ∧ k.Cap) ∧ k.At W ∧ qs[i] = (.slice k.ra k.rs.length k.rc, .slice k.da k.ds.length k.dc, .slice k.va k.vs.length k.vc)) := fun i hi => by
    obtain ⟨k, h0, h1, h2, h3, h4, h5, h6⟩ := (hq i hi (by omega)).cl
    exact ⟨k, fun _ _ => ⟨⟨h0, h1, h2, h3, h4⟩, h5, h6⟩⟩
  obtain ⟨f, hf⟩ := Deep.choose_lt each
  obtain ⟨a, c, e⟩ := own_sl hr
  refine ⟨a, c, (List.range cs.length).map f, by simp, by rw [e]; simp, fun j hj => ?_, fun j hj hj' => ?_⟩
  · have hj2 : j < cs.length := by simpa using hj
    obtain ⟨⟨h0, _⟩, h1, h2⟩ := hf j hj2 hj2 (by omega)
    have ek : ((List.range cs.length).map f)[j] = f j := by simp
    rw [ek]
    refine ⟨?_, h1⟩
    rcases hr.2 with ⟨_, hz⟩ | ⟨g, cap, cur, hv, rest⟩
    · omega
    · rw [e] at hv
      injection hv with ha _ _
      have hc : ∀ i u, (colC cs[j] (qs[j]'(by omega)))[i]? = some u → i < 4 → W.cell? ⟨g, 0 + j * 4 + i, none⟩ = some u := fun i u hu hi => by
        have h1 := hr.cells (g := g) (by rw [e, ha]; rfl) (j * 4 + i) u (by rw [zip4_at cs qs j i hl hi hj2 (by omega)]; exact hu)
        rw [addr_plus] at h1
        rw [Nat.add_assoc]
        exact h1
      rw [h2] at hc
      have c0 := hc 0 _ rfl (by omega)
      have c1 := hc 1 _ rfl (by omega)
      have c2 := hc 2 _ rfl (by omega)
      have c3 := hc 3 _ rfl (by omega)
      rw [← h0] at c0
      exact ⟨g, 0, ha, c0, c1, c2, c3⟩
  · have hj2 : j < cs.length := by simpa using hj
    have ek : ((List.range cs.length).map f)[j] = f j := by simp
    rw [ek]
    exact (hf j hj2 hj2 (by omega)).1
end Go.Proofs.YtbicfjimlpdnkaaGreatDoor

namespace Go.Proofs.YtbicfjimlpdnkaaGreatDoor
open Go.RowKit
/-- The same column, in rows with room. -/
structure SameC (c k : Cl) : Prop where
  id : k.id = c.id
  rs : k.rs = c.rs
  ds : k.ds = c.ds
  vs : k.vs = c.vs
  cap : k.rs.length ≤ k.rc ∧ k.ds.length ≤ k.dc ∧ k.vs.length ≤ k.vc
theorem ownColumn_cl (c : Cl) (W : World) (mr : c.rs.length ≤ 20000) (md : c.ds.length ≤ 20000) (mv : c.vs.length ≤ 20000) (h : c.At W) :
    Calls Tryz.prog 22 #[.agg #[.int .i64 c.id, .slice c.ra c.rs.length c.rc, .slice c.da c.ds.length c.dc, .slice c.va c.vs.length c.vc]] W fun e w' => (∃ k : Cl, e = .returned (.agg #[.int .i64 k.id, .slice k.ra k.rs.length k.rc, .slice k.da k.ds.length k.dc, .slice k.va k.vs.length k.vc]) ∧ k.At w' ∧ k.Fr W.heap.size ∧ SameC c k) ∧ Below W.heap.size W w' :=
  (ownColumn_any c.id c.ra c.da c.va c.rc c.dc c.vc c.rs c.ds c.vs W mr md mv h.r h.d h.v).mono fun e w' h => by
    obtain ⟨⟨ra, rc, da, dc, va, vc, rfl, h1, h2, h3, h4, h5, h6, h7⟩, hb⟩ := h
    exact ⟨⟨⟨c.id, ra, c.rs, rc, da, c.ds, dc, va, c.vs, vc⟩, rfl, ⟨h1, h2, h3⟩, ⟨h5, h6, h7⟩, rfl, rfl, rfl, rfl, h4⟩, hb⟩
end Go.Proofs.YtbicfjimlpdnkaaGreatDoor

namespace Go.Proofs.YtbicfjimlpdnkaaGreatDoor
open Go.RowKit
/-- The cells of a column. -/
def clvC (k : Cl) : List Value := [.int .i64 k.id, .slice k.ra k.rs.length k.rc, .slice k.da k.ds.length k.dc, .slice k.va k.vs.length k.vc]
def clCs (ks : List Cl) : List Value := ks.flatMap clvC
theorem clCs_at (ks : List Cl) (j : Nat) (h : j < ks.length) : (clCs ks)[j * 4]? = some (.int .i64 ks[j].id) ∧ (clCs ks)[j * 4 + 1]? = some (.slice ks[j].ra ks[j].rs.length ks[j].rc) ∧ (clCs ks)[j * 4 + 2]? = some (.slice ks[j].da ks[j].ds.length ks[j].dc) ∧ (clCs ks)[j * 4 + 3]? = some (.slice ks[j].va ks[j].vs.length ks[j].vc) := by
  induction ks generalizing j with
  | nil => simp at h
  | cons k ks ih =>
    have hc : clCs (k :: ks) = clvC k ++ clCs ks := by simp [clCs]
    cases j with
    | zero => rw [hc]; simp [clvC]
    | succ j =>
      have := ih j (by simpa using h)
      have e1 : (j + 1) * 4 = j * 4 + 4 := by omega
      have e2 : (j + 1) * 4 + 1 = j * 4 + 1 + 4 := by omega
      have e3 : (j + 1) * 4 + 2 = j * 4 + 2 + 4 := by omega
      have e4 : (j + 1) * 4 + 3 = j * 4 + 3 + 4 := by omega
      rw [hc, e2, e3, e4, e1]
      rw [List.getElem?_append_right (by simp [clvC]), List.getElem?_append_right (by simp [clvC]), List.getElem?_append_right (by simp [clvC]), List.getElem?_append_right (by simp [clvC])]
      simpa [clvC] using this
/-- Worlds that agree but for one row. -/
def Agr (w : World) (v : Value) (X : World) : Prop := ∀ k, k < w.heap.size → some k ≠ v.ownBlock → X.heap[k]? = w.heap[k]?
theorem at_agr {w X : World} {v : Value} {k : Cl} (h : k.At w) (hX : Agr w v X) (hne : ∀ p, (k.ra = some p ∨ k.da = some p ∨ k.va = some p) → some p.block ≠ v.ownBlock) : k.At X := by
  refine ⟨fun j hj => ?_, fun j hj => ?_, fun j hj => ?_⟩
  · obtain ⟨b, o, e, hc⟩ := h.r j hj
    exact ⟨b, o, e, by rw [World.cell?_of_block (hX b (World.block_lt_of_cell? w _ hc) (hne _ (.inl e)))]; exact hc⟩
  · obtain ⟨b, o, e, hc⟩ := h.d j hj
    exact ⟨b, o, e, by rw [World.cell?_of_block (hX b (World.block_lt_of_cell? w _ hc) (hne _ (.inr (.inl e))))]; exact hc⟩
  · obtain ⟨b, o, e, h0, h1, h2⟩ := h.v j hj
    have hb := hX b (World.block_lt_of_cell? w _ h0) (hne _ (.inr (.inr e)))
    exact ⟨b, o, e, by rw [World.cell?_of_block hb]; exact h0, by rw [World.cell?_of_block hb]; exact h1, by rw [World.cell?_of_block hb]; exact h2⟩
/-- What the loop of OwnColumns holds. -/
structure OwC (W : World) (cs : List Cl) (i : Nat) (v : Value) (ks : List Cl) (wr : World) : Prop where
  len : ks.length = i
  row : wr.ownsRow W.heap.size 42 4 v ks.length (clCs ks)
  old : Below W.heap.size W wr
  same : ∀ j (h : j < ks.length) (h' : j < cs.length), SameC cs[j] ks[j]
  at_ : ∀ j (h : j < ks.length) X, Agr wr v X → ks[j].At X
theorem OwC.next {W : World} {cs : List Cl} {i : Nat} {v v' : Value} {ks : List Cl} {wr w1 w2 w3 : World} {k : Cl} (h : OwC W cs i v ks wr) (hb : Below wr.heap.size wr w1) (hk : k.At w1) (hf : k.Fr wr.heap.size) (hs : ∀ h' : i < cs.length, SameC cs[i] k)
    (hw2 : Below w1.heap.size w1 w2) (hown : w3.ownsRow W.heap.size 42 4 v' (ks.length + 1) (clCs ks ++ clvC k)) (hg : w2.grownBy w3 v.ownBlock) (hw : v'.ownBlock = v.ownBlock ∨ v'.ownBlock = some w2.heap.size) : OwC W cs (i + 1) v' (ks ++ [k]) w3 := by
  have h12 : Below wr.heap.size wr w2 := hb.trans (hw2.mono hb.size)
  have hagr : ∀ X, Agr w3 v' X → Agr w2 v X := fun X hX b hbl hne => by
    rw [← hg.block b hbl hne]
    refine hX b (Nat.lt_of_lt_of_le hbl hg.size) fun e => ?_
    rcases hw with e2 | e2
    · rw [e2] at e; exact hne e
    · rw [e2] at e; injection e with e; omega
  refine ⟨by simp [h.len], ?_, ?_, fun j hj hj' => ?_, fun j hj X hX => ?_⟩
  · rw [List.length_append, show clCs (ks ++ [k]) = clCs ks ++ clvC k by simp [clCs]]
    exact hown
  · exact (h.old.trans (h12.mono h.old.size)).grown hg (Nat.le_trans h.old.size h12.size) fun b hbe => (own_block h.row hbe).1
  · by_cases hl : j < ks.length
    · rw [List.getElem_append_left hl]; exact h.same j hl hj'
    · have e : j = i := by have := h.len; simp at hj; omega
      subst e
      have : (ks ++ [k])[j] = k := by rw [List.getElem_append_right (by omega)]; simp
      rw [this]; exact hs hj'
  · have hX2 := hagr X hX
    by_cases hl : j < ks.length
    · rw [List.getElem_append_left hl]
      exact h.at_ j hl X fun b hbl hne => (hX2 b (Nat.lt_of_lt_of_le hbl h12.size) hne).trans (h12.block b hbl)
    · have : (ks ++ [k])[j] = k := by rw [List.getElem_append_right (by omega)]; simp
      rw [this]
      refine at_agr (hk.keep hw2) hX2 fun p hp e => ?_
      have h1 := (own_block h.row e.symm).2.1
      rcases hp with e | e | e
      · have := hf.r p e; omega
      · have := hf.d p e; omega
      · have := hf.v p e; omega
set_option maxRecDepth 100000 in
set_option maxHeartbeats 3200000 in
theorem ownColumns_any (a : Option Addr) (c : Nat) (cs : List Cl) (W : World) (hn : cs.length ≤ 1000) (hca : ∀ j (h : j < cs.length), cs[j].rs.length ≤ 20000 ∧ cs[j].ds.length ≤ 20000 ∧ cs[j].vs.length ≤ 20000) (hl : LiesC W a cs) :
    Calls Tryz.prog 11 #[.slice a cs.length c] W fun e w' => (∃ a' c' ks, e = .returned (.slice a' ks.length c') ∧ LiesC w' a' ks ∧ ks.length = cs.length ∧ ∀ j (h : j < ks.length) (h' : j < cs.length), SameC cs[j] ks[j]) ∧ Below W.heap.size W w' := by
  obtain ⟨iv, hvi, hv0, hv1, hv2⟩ := info_parts Tryz.infoC
  have HL : Hid (LiesC W a cs) := hl
  have HCA : Hid _ := hca
  clear hl hca
  go_enter Tryz.func11, Tryz.ntmps11
  go_wp2
  go_loopw [3, 4] (fun v x wr => ∃ (i : Nat) (ks : List Cl), i ≤ cs.length ∧ x = .int .i64 i ∧ Hid (OwC W cs i v ks wr)) (fun _ x _ => cs.length - (intOf x).toNat)
  case atStart => exact ⟨0, [], Nat.zero_le _, rfl, rfl, World.ownsRow_nil W W.heap.size 42 4, Below.refl _ _, fun j h => absurd h (by simp), fun j h => absurd h (by simp)⟩
  case round =>
    obtain ⟨i, ks, hi, rfl, HI⟩ := hrel
    obtain ⟨va, vc, rfl⟩ := own_slC HI.out.row
    by_cases hlt : i < cs.length
    · obtain ⟨⟨b, o, rfl, c0, c1, c2, c3⟩, hat⟩ := (HL.out.keep HI.out.old) i hlt
      obtain ⟨hc1, hc2, hc3⟩ := HCA.out i hlt
      have HO : Hid _ := ownColumn_cl cs[i] wr hc1 hc2 hc3 hat
      clear hat
      go_wp2_with fail
      refine Calls.mono HO.out ?_
      rintro e w1 ⟨⟨k, rfl, kat, kfr, ksm⟩, hb1⟩
      have HKA : Hid _ := kat
      have HKF : Hid _ := kfr
      have HKS : Hid _ := ksm
      have HB1 : Hid _ := hb1
      clear kat kfr ksm hb1
      go_wp2_with (at_builtin; (refine wpList_append_any _ rfl _ _ 29 rfl W.heap.size 42 iv (.agg #[.int .i64 0, .slice none 0 0, .slice none 0 0, .slice none 0 0]) 4 80 Tryz.underlying29 hvi hv0 hv1 hv2 rfl (by decide) _ _ (clCs ks) rfl (ow_kept HI.out.row (HB1.out.alloc HB1.out.size _)) (some ⟨w1.heap.size, 0, none⟩) 1 1 (clvC k) rfl (by simp [clvC]) (fun j u hu => ⟨_, rfl, by have h := cell_of_row (w1.alloc (.cells #[.int .i64 k.id, .slice k.ra k.rs.length k.rc, .slice k.da k.ds.length k.dc, .slice k.va k.vs.length k.vc] 42)) w1.heap.size j _ _ _ (heap_alloc_new _ _); rw [addr_add, Nat.zero_add, h, ← hu]; simp [clvC]⟩) (by intro u hu; simp [clvC] at hu; rcases hu with rfl | rfl | rfl | rfl <;> rfl) (by have h9 := HI.out.len; unfold maxLen; omega) (by have h9 := HI.out.len; omega) (by have h1 := HI.out.old.size; have h2 := HB1.out.size; simp; omega) ?_); intro v2 w2 hown2 hg2 hw2)
      have HN : Hid _ := HI.out.next HB1.out HKA.out HKF.out (fun _ => HKS.out) ((Below.refl _ _).alloc (Nat.le_refl _) _) hown2 hg2 hw2
      clear hown2 hg2 hw2
      go_wp2
      go_roundw
      case rel => exact ⟨i + 1, _, by omega, by go_num, HN⟩
      case measure => simp [intOf]; omega
    · obtain rfl : i = cs.length := by omega
      have hlen := HI.out.len
      go_wp2
      go_ret
      refine ⟨⟨va, vc, ks, rfl, fun j hj => ⟨?_, HI.out.at_ j hj _ fun _ _ _ => rfl⟩, hlen, HI.out.same⟩, HI.out.old⟩
      rcases HI.out.row.2 with ⟨_, h0⟩ | ⟨g, cap, cur, he, _⟩
      · omega
      · obtain ⟨h0, h1, h2, h3⟩ := clCs_at ks j hj
        injection he with he _ _
        subst he
        have e0 := HI.out.row.cells (g := g) rfl _ _ h0
        have e1 := HI.out.row.cells (g := g) rfl _ _ h1
        have e2 := HI.out.row.cells (g := g) rfl _ _ h2
        have e3 := HI.out.row.cells (g := g) rfl _ _ h3
        rw [addr_up] at e0 e1 e2 e3
        exact ⟨g, 0, rfl, e0, by rw [Nat.add_assoc]; exact e1, by rw [Nat.add_assoc]; exact e2, by rw [Nat.add_assoc]; exact e3⟩
end Go.Proofs.YtbicfjimlpdnkaaGreatDoor
