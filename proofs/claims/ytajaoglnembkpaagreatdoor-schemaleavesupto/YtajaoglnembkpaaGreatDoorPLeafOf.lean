/-
  schema.leafOf: what is told of a leaf.
-/
import Derived.Test.YtajaoglnembkpaaGreatDoorPPathTo
import Derived.Test.YtajaoglnembkpaaGreatDoorPBPackF
namespace Go.Proofs.YtajaoglnembkpaaGreatDoor
open Go.RowKit
theorem Tryz.infoI : (Tryz.prog.info? 3).map (fun i => (i.zero, i.size, i.bytes)) = some (some (.int .i64 0), 1, 8) := by kernel_rfl
/-- A leaf: its number, kind, levels and path. -/
structure Lf where
  id : Int
  kind : Int
  mr : Nat
  md : Nat
  path : List Int
def lvR (l : List Tr) : Nat := (l.filter fun t => decide (t.rep = 3)).length
def lvD (l : List Tr) : Nat := (l.filter fun t => decide (t.rep ≠ 1)).length
theorem lvR_snoc (l : List Tr) (t : Tr) : lvR (l ++ [t]) = lvR l + (if t.rep = 3 then 1 else 0) := by
  unfold lvR
  rw [List.filter_append, List.length_append]
  by_cases h : t.rep = 3 <;> simp [h]
theorem lvD_snoc (l : List Tr) (t : Tr) : lvD (l ++ [t]) = lvD l + (if t.rep = 1 then 0 else 1) := by
  unfold lvD
  rw [List.filter_append, List.length_append]
  by_cases h : t.rep = 1 <;> simp [h]
theorem lvR_le (l : List Tr) : lvR l ≤ l.length := List.length_filter_le _ _
theorem lvD_le (l : List Tr) : lvD l ≤ l.length := List.length_filter_le _ _
def lfO (t : Tr) (path : List Tr) : Lf := ⟨t.id, t.kind, lvR (path ++ [t]), lvD (path ++ [t]), (path ++ [t]).map Tr.id⟩
/-- What leafOf's loop keeps. -/
structure LfI (N g : Nat) (w1 : World) (t : Tr) (l : List Tr) (wr : World) (pv : Value) : Prop where
  os : wr.os = w1.os
  tape : wr.tape = w1.tape
  output : wr.output = w1.output
  size : w1.heap.size ≤ wr.heap.size
  old : ∀ k, k < N → k ≠ g → wr.heap[k]? = w1.heap[k]?
  leaf : wr.heap[g]? = some (.cells #[.int .i64 t.id, .int .i64 t.kind, .int .i64 (lvR l : Nat), .int .i64 (lvD l : Nat), pv] 40 (0, 0))
  row : wr.ownsRow N 3 1 pv l.length (i64s (l.map Tr.id))
theorem LfI.alloc {N g : Nat} {w1 : World} {t : Tr} {l : List Tr} {wr : World} {pv : Value} (h : LfI N g w1 t l wr pv) (hN : N ≤ w1.heap.size) (o : Obj) : LfI N g w1 t l (wr.alloc o) pv := by
  have hs := h.size
  exact ⟨h.os, h.tape, h.output, by simp; omega, fun k hk hne => by rw [heap_alloc_old wr o (by omega)]; exact h.old k hk hne, blk_alloc h.leaf, h.row.alloc o⟩
theorem LfI.blocks {N g : Nat} {w1 : World} {t : Tr} {l : List Tr} {wr w2 : World} {pv : Value} {x : Tr} {a1 : Option Addr} {c1 : Nat} {o2 : Obj} (h : LfI N g w1 t l wr pv) (hN : N ≤ w1.heap.size) (hg : g < N)
    (hgr : ((wr.alloc (.cells #[.int .i64 x.id, .string x.nm, .int .i64 x.rep, .int .i64 x.kind, .slice a1 x.sub.length c1] 24)).alloc o2).grownBy w2 pv.ownBlock) :
    w2.heap[g]? = some (.cells #[.int .i64 t.id, .int .i64 t.kind, .int .i64 (lvR l : Nat), .int .i64 (lvD l : Nat), pv] 40 (0, 0)) ∧ w2.heap[wr.heap.size]? = some (.cells #[.int .i64 x.id, .string x.nm, .int .i64 x.rep, .int .i64 x.kind, .slice a1 x.sub.length c1] 24 (0, 0)) ∧ (∀ k, k < N → k ≠ g → w2.heap[k]? = w1.heap[k]?) ∧ w2.os = w1.os ∧ w2.tape = w1.tape ∧ w2.output = w1.output ∧ w1.heap.size ≤ w2.heap.size := by
  have hs := h.size
  have hlt := lt_of_block h.leaf
  have hpv : ∀ k, pv.ownBlock = some k → N ≤ k ∧ k < wr.heap.size := fun k hk => ⟨(own_block h.row hk).1, (own_block h.row hk).2.1⟩
  refine ⟨?_, ?_, fun k hk hne => ?_, hgr.os.trans h.os, hgr.tape.trans h.tape, hgr.output.trans h.output, by have := hgr.size; simp at this; omega⟩
  · rw [hgr.block g (by simp; omega) (fun e => by have := hpv g e.symm; omega)]
    exact blk_alloc (blk_alloc h.leaf)
  · rw [hgr.block wr.heap.size (by simp; omega) (fun e => by have := hpv _ e.symm; omega)]
    exact blk_alloc (heap_alloc_new wr _)
  · rw [hgr.block k (by simp; omega) (fun e => by have := hpv k e.symm; omega), heap_alloc_old _ o2 (by simp; omega), heap_alloc_old wr _ (by omega)]
    exact h.old k hk hne
theorem LfI.put {N g : Nat} {w1 : World} {t : Tr} {l : List Tr} {w2 w3 : World} {x : Tr} {pv2 : Value} {mr md : Int} (hg : g < N) (hold : ∀ k, k < N → k ≠ g → w2.heap[k]? = w1.heap[k]?) (ho : w2.os = w1.os ∧ w2.tape = w1.tape ∧ w2.output = w1.output ∧ w1.heap.size ≤ w2.heap.size)
    (hown : w2.ownsRow N 3 1 pv2 (l.length + 1) (i64s (l.map Tr.id) ++ [.int .i64 x.id])) (h3 : ∀ k, k ≠ g → w3.heap[k]? = w2.heap[k]?) (h4 : w3.os = w2.os ∧ w3.tape = w2.tape ∧ w3.output = w2.output ∧ w3.heap.size = w2.heap.size)
    (hl : w3.heap[g]? = some (.cells #[.int .i64 t.id, .int .i64 t.kind, .int .i64 mr, .int .i64 md, pv2] 40 (0, 0))) (hmr : mr = (lvR (l ++ [x]) : Nat)) (hmd : md = (lvD (l ++ [x]) : Nat)) : LfI N g w1 t (l ++ [x]) w3 pv2 := by
  subst hmr hmd
  refine ⟨h4.1.trans ho.1, h4.2.1.trans ho.2.1, h4.2.2.1.trans ho.2.2.1, by rw [h4.2.2.2]; exact ho.2.2.2, fun k hk hne => (h3 k hne).trans (hold k hk hne), hl, ?_⟩
  rw [List.length_append]
  have e : i64s ((l ++ [x]).map Tr.id) = i64s (l.map Tr.id) ++ [.int .i64 x.id] := by simp [i64s]
  rw [e]
  exact own_same hown fun k hk => h3 k (fun e => by have := (own_block hown hk).1; omega)
set_option maxRecDepth 100000 in
set_option maxHeartbeats 1600000 in
theorem leafOf_any (t : Tr) (a : Option Addr) (c : Nat) (hc : t.sub.length ≤ c) (path : List Tr) (b o vc : Nat) (hn : path.length ≤ 1000000) (W : World) (hl : LiesN W (fun b => b < W.heap.size) a t.sub) (hp : LiesN W (fun b => b < W.heap.size) (some ⟨b, o, none⟩) path) :
    Calls Tryz.prog 20 #[nodeV t a c, .slice (some ⟨b, o, none⟩) path.length vc] W fun e w' => (∃ a' n' c', e = .returned (.agg #[.int .i64 t.id, .int .i64 t.kind, .int .i64 (lvR (path ++ [t]) : Nat), .int .i64 (lvD (path ++ [t]) : Nat), .slice a' n' c']) ∧ w'.ownsRow W.heap.size 3 1 (.slice a' n' c') (path.length + 1) (i64s ((path ++ [t]).map Tr.id))) ∧ Below W.heap.size W w' := by
  obtain ⟨iv, hvi, hv0, hv1, hv2⟩ := info_parts Tryz.infoI
  have hb3 : Below W.heap.size W (((W.alloc (.cells #[.int .i64 t.id, .string t.nm, .int .i64 t.rep, .int .i64 t.kind, .slice a t.sub.length c] 24)).alloc (.cells #[.int .i64 0, .int .i64 0, .int .i64 0, .int .i64 0, .slice none 0 0] 40)).alloc (.cells #[.int .i64 t.id, .int .i64 t.kind, .int .i64 0, .int .i64 0, .slice none 0 0] 40)) := (((Below.refl _ _).alloc (Nat.le_refl _) _).alloc (by simp) _).alloc (by simp; omega) _
  have HP : Hid _ := pathTo_any t a c hc path b o vc (by omega) (fun b => b < W.heap.size) _ (hl.stay (fun _ h _ => h) (fun b _ h => hb3.block b h)) (hp.stay (fun _ h _ => h) (fun b _ h => hb3.block b h))
  have HB3 : Hid _ := hb3
  have HR : Hid ((((W.alloc (.cells #[.int .i64 t.id, .string t.nm, .int .i64 t.rep, .int .i64 t.kind, .slice a t.sub.length c] 24)).alloc (.cells #[.int .i64 0, .int .i64 0, .int .i64 0, .int .i64 0, .slice none 0 0] 40)).alloc (.cells #[.int .i64 t.id, .int .i64 t.kind, .int .i64 0, .int .i64 0, .slice none 0 0] 40)).heap[W.heap.size + 1]? = some (.cells #[.int .i64 0, .int .i64 0, .int .i64 0, .int .i64 0, .slice none 0 0] 40 (0, 0))) := by
    have h := heap_alloc_new (W.alloc (.cells #[.int .i64 t.id, .string t.nm, .int .i64 t.rep, .int .i64 t.kind, .slice a t.sub.length c] 24)) (.cells #[.int .i64 0, .int .i64 0, .int .i64 0, .int .i64 0, .slice none 0 0] 40)
    rw [show (W.alloc (.cells #[.int .i64 t.id, .string t.nm, .int .i64 t.rep, .int .i64 t.kind, .slice a t.sub.length c] 24)).heap.size = W.heap.size + 1 by simp] at h
    exact blk_alloc h
  have HL : Hid ((((W.alloc (.cells #[.int .i64 t.id, .string t.nm, .int .i64 t.rep, .int .i64 t.kind, .slice a t.sub.length c] 24)).alloc (.cells #[.int .i64 0, .int .i64 0, .int .i64 0, .int .i64 0, .slice none 0 0] 40)).alloc (.cells #[.int .i64 t.id, .int .i64 t.kind, .int .i64 0, .int .i64 0, .slice none 0 0] 40)).heap[W.heap.size + 1 + 1]? = some (.cells #[.int .i64 t.id, .int .i64 t.kind, .int .i64 0, .int .i64 0, .slice none 0 0] 40 (0, 0))) := by
    have h := heap_alloc_new ((W.alloc (.cells #[.int .i64 t.id, .string t.nm, .int .i64 t.rep, .int .i64 t.kind, .slice a t.sub.length c] 24)).alloc (.cells #[.int .i64 0, .int .i64 0, .int .i64 0, .int .i64 0, .slice none 0 0] 40)) (.cells #[.int .i64 t.id, .int .i64 t.kind, .int .i64 0, .int .i64 0, .slice none 0 0] 40)
    rw [show ((W.alloc (.cells #[.int .i64 t.id, .string t.nm, .int .i64 t.rep, .int .i64 t.kind, .slice a t.sub.length c] 24)).alloc (.cells #[.int .i64 0, .int .i64 0, .int .i64 0, .int .i64 0, .slice none 0 0] 40)).heap.size = W.heap.size + 1 + 1 by simp] at h
    exact h
  clear hl hp hb3
  go_enter Tryz.func20, Tryz.ntmps20
  go_wp2_with fail
  refine Calls.mono HP.out ?_
  rintro e w1 ⟨⟨pa, pc, rfl, hpl⟩, hb1⟩
  clear HP
  have hs1 := hb1.size
  simp only [World.size_alloc] at hs1
  have HB1 : Hid (Below W.heap.size W w1) := HB3.out.trans (hb1.mono HB3.out.size)
  have HR1 : Hid (w1.heap[W.heap.size + 1]? = some (.cells #[.int .i64 0, .int .i64 0, .int .i64 0, .int .i64 0, .slice none 0 0] 40 (0, 0))) := blk_keep hb1 HR.out
  have HI : Hid (LfI w1.heap.size (W.heap.size + 1 + 1) w1 t ((path ++ [t]).take 0) w1 (.slice none 0 0)) := ⟨rfl, rfl, rfl, Nat.le_refl _, fun _ _ _ => rfl, blk_keep hb1 HL.out, World.ownsRow_nil _ _ _ _⟩
  have HPL : Hid (LiesN w1 (fun b => b < w1.heap.size ∧ b ≠ W.heap.size + 1 + 1) pa (path ++ [t])) := hpl.stay (fun b h hlt => ⟨hlt, by simp at h; omega⟩) (fun _ _ _ => rfl)
  have hpn : (path ++ [t]).length = path.length + 1 := by simp
  clear hb1 hpl HL HR HB3
  go_wp2
  go_loopw [17] (fun x wr => ∃ (i : Nat) (pv : Value), i ≤ path.length + 1 ∧ x = .int .i64 i ∧ Hid (LfI w1.heap.size (W.heap.size + 1 + 1) w1 t ((path ++ [t]).take i) wr pv)) (fun x _ => path.length + 1 - (intOf x).toNat)
  case atStart => exact ⟨0, _, Nat.zero_le _, rfl, HI⟩
  case round =>
    clear HI
    obtain ⟨i, pv, hik, rfl, HI⟩ := hrel
    have hsr := HI.out.size
    by_cases hlt : i < path.length + 1
    · have hlt' : i < (path ++ [t]).length := by omega
      obtain ⟨b', o', a1, c1, ea, d0, d1, d2, d3, d4, _⟩ := (HPL.out.stay (W' := wr) (Q := fun _ => True) (fun _ _ _ => trivial) (fun b h _ => HI.out.old b h.1 h.2)).at_ i hlt'
      subst ea
      obtain ⟨x, hx⟩ : ∃ x, x = (path ++ [t])[i] := ⟨_, rfl⟩
      rw [← hx] at d0 d1 d2 d3 d4
      obtain ⟨l, hl⟩ : ∃ l, l = (path ++ [t]).take i := ⟨_, rfl⟩
      have HT : Hid ((path ++ [t]).take (i + 1) = l ++ [x]) := (by show _ = _; rw [hl, hx, List.take_succ_eq_append_getElem hlt'])
      have HI' : Hid (LfI w1.heap.size (W.heap.size + 1 + 1) w1 t l wr pv) := (by rw [hl]; exact HI.out)
      have hll : l.length = i := by rw [hl, List.length_take]; omega
      have hlr := lvR_le l
      have hld := lvD_le l
      clear HI hl hx
      have HO : Hid (wr.ownsRow w1.heap.size 3 1 pv i (i64s (l.map Tr.id))) := (by have := HI'.out.row; rw [hll] at this; exact this)
      by_cases h3 : x.rep = 3
      · have q3 : (x.rep == 3) = true := by simp [h3]
        have q1 : (x.rep == 1) = false := by rw [h3]; rfl
        have H3 : Hid (x.rep = 3) := h3
        clear h3
        obtain ⟨⟨r0, r1, r2, r3, r4⟩, f0, f1, f2, f3, f4⟩ := row_five (blk_alloc (o' := .cells #[.int .i64 x.id, .string x.nm, .int .i64 x.rep, .int .i64 x.kind, .slice a1 x.sub.length c1] 24) HI'.out.leaf)
        go_wp2_with (at_builtin; refine wpList_append_own _ rfl _ _ 38 rfl w1.heap.size 3 iv (.int .i64 0) 1 8 Tryz.underlying38 hvi hv0 hv1 hv2 rfl (by decide) _ i (i64s (l.map Tr.id)) rfl ((HO.out.alloc _).alloc _) ⟨wr.heap.size + 1, 0, none⟩ 1 1 [.int .i64 x.id] rfl rfl (by intro j u hu; have h := cell_one_new (wr.alloc (.cells #[.int .i64 x.id, .string x.nm, .int .i64 x.rep, .int .i64 x.kind, .slice a1 x.sub.length c1] 24)) (.int .i64 x.id) 3 j u hu; simpa using h) (by intro u hu; simp at hu; subst hu; rfl) (by unfold maxLen; omega) (by omega) (by simp; omega) ?_; intro v2 w2 hown2 hgrow2 _; obtain ⟨g2, cap2, rfl⟩ := own_shape hown2; obtain ⟨k1, k2, k3, k4⟩ := HI'.out.blocks (Nat.le_refl _) (by omega) hgrow2; have HW : Hid _ := And.intro k3 k4; have HG2 : Hid _ := k1; have HO2 : Hid (w2.ownsRow w1.heap.size 3 1 (.slice (some ⟨g2, 0, none⟩) (i + 1) cap2) (i + 1) (i64s (l.map Tr.id) ++ [.int .i64 x.id])) := hown2; clear k3 k4 hown2 hgrow2 r0 r1 r2 r3 r4 f0 f1 f2 f3 f4 d0 d1 d2 d3 d4; obtain ⟨⟨r0, r1, r2, r3, r4⟩, f0, f1, f2, f3, f4⟩ := row_five k1; obtain ⟨⟨p0, p1, p2, p3, p4⟩, _⟩ := row_five k2; clear k1 k2)
        go_wp2
        go_roundw
        case rel => exact ⟨i + 1, _, by omega, by go_num, (by rw [HT.out]; exact LfI.put (w2 := w2) (by omega) HW.out.1 HW.out.2 (by rw [hll]; exact HO2.out) (fun k hk => by rw [Below.heap_setCell _ ⟨W.heap.size + 1 + 1, 3, none⟩ _ _ hk, Below.heap_setCell _ ⟨W.heap.size + 1 + 1, 2, none⟩ _ _ hk, Below.heap_setCell _ ⟨W.heap.size + 1 + 1, 4, none⟩ _ _ hk]) ⟨rfl, rfl, rfl, by simp⟩ (row_setC (j := 3) (row_setC (j := 2) (row_setC (j := 4) HG2.out))) (by rw [lvR_snoc]; simp [H3.out]) (by rw [lvD_snoc]; simp [H3.out]))⟩
        case measure => simp [intOf]; omega
      · by_cases h1 : x.rep = 1
        · have q3 : (x.rep == 3) = false := by simp [h3]
          have q1 : (x.rep == 1) = true := by simp [h1]
          have H1 : Hid (x.rep = 1) := h1
          clear h1
          obtain ⟨⟨r0, r1, r2, r3, r4⟩, f0, f1, f2, f3, f4⟩ := row_five (blk_alloc (o' := .cells #[.int .i64 x.id, .string x.nm, .int .i64 x.rep, .int .i64 x.kind, .slice a1 x.sub.length c1] 24) HI'.out.leaf)
          go_wp2_with (at_builtin; refine wpList_append_own _ rfl _ _ 38 rfl w1.heap.size 3 iv (.int .i64 0) 1 8 Tryz.underlying38 hvi hv0 hv1 hv2 rfl (by decide) _ i (i64s (l.map Tr.id)) rfl ((HO.out.alloc _).alloc _) ⟨wr.heap.size + 1, 0, none⟩ 1 1 [.int .i64 x.id] rfl rfl (by intro j u hu; have h := cell_one_new (wr.alloc (.cells #[.int .i64 x.id, .string x.nm, .int .i64 x.rep, .int .i64 x.kind, .slice a1 x.sub.length c1] 24)) (.int .i64 x.id) 3 j u hu; simpa using h) (by intro u hu; simp at hu; subst hu; rfl) (by unfold maxLen; omega) (by omega) (by simp; omega) ?_; intro v2 w2 hown2 hgrow2 _; obtain ⟨g2, cap2, rfl⟩ := own_shape hown2; obtain ⟨k1, k2, k3, k4⟩ := HI'.out.blocks (Nat.le_refl _) (by omega) hgrow2; have HW : Hid _ := And.intro k3 k4; have HG2 : Hid _ := k1; have HO2 : Hid (w2.ownsRow w1.heap.size 3 1 (.slice (some ⟨g2, 0, none⟩) (i + 1) cap2) (i + 1) (i64s (l.map Tr.id) ++ [.int .i64 x.id])) := hown2; clear k3 k4 hown2 hgrow2 r0 r1 r2 r3 r4 f0 f1 f2 f3 f4 d0 d1 d2 d3 d4; obtain ⟨⟨r0, r1, r2, r3, r4⟩, f0, f1, f2, f3, f4⟩ := row_five k1; obtain ⟨⟨p0, p1, p2, p3, p4⟩, _⟩ := row_five k2; clear k1 k2)
          go_wp2
          go_roundw
          case rel => exact ⟨i + 1, _, by omega, by go_num, (by rw [HT.out]; exact LfI.put (w2 := w2) (by omega) HW.out.1 HW.out.2 (by rw [hll]; exact HO2.out) (fun k hk => by rw [Below.heap_setCell _ ⟨W.heap.size + 1 + 1, 4, none⟩ _ _ hk]) ⟨rfl, rfl, rfl, by simp⟩ (row_setC (j := 4) HG2.out) (by rw [lvR_snoc]; simp [H1.out]) (by rw [lvD_snoc]; simp [H1.out]))⟩
          case measure => simp [intOf]; omega
        · have q3 : (x.rep == 3) = false := by simp [h3]
          have q1 : (x.rep == 1) = false := by simp [h1]
          obtain ⟨⟨r0, r1, r2, r3, r4⟩, f0, f1, f2, f3, f4⟩ := row_five (blk_alloc (o' := .cells #[.int .i64 x.id, .string x.nm, .int .i64 x.rep, .int .i64 x.kind, .slice a1 x.sub.length c1] 24) HI'.out.leaf)
          go_wp2_with (at_builtin; refine wpList_append_own _ rfl _ _ 38 rfl w1.heap.size 3 iv (.int .i64 0) 1 8 Tryz.underlying38 hvi hv0 hv1 hv2 rfl (by decide) _ i (i64s (l.map Tr.id)) rfl ((HO.out.alloc _).alloc _) ⟨wr.heap.size + 1, 0, none⟩ 1 1 [.int .i64 x.id] rfl rfl (by intro j u hu; have h := cell_one_new (wr.alloc (.cells #[.int .i64 x.id, .string x.nm, .int .i64 x.rep, .int .i64 x.kind, .slice a1 x.sub.length c1] 24)) (.int .i64 x.id) 3 j u hu; simpa using h) (by intro u hu; simp at hu; subst hu; rfl) (by unfold maxLen; omega) (by omega) (by simp; omega) ?_; intro v2 w2 hown2 hgrow2 _; obtain ⟨g2, cap2, rfl⟩ := own_shape hown2; obtain ⟨k1, k2, k3, k4⟩ := HI'.out.blocks (Nat.le_refl _) (by omega) hgrow2; have HW : Hid _ := And.intro k3 k4; have HG2 : Hid _ := k1; have HO2 : Hid (w2.ownsRow w1.heap.size 3 1 (.slice (some ⟨g2, 0, none⟩) (i + 1) cap2) (i + 1) (i64s (l.map Tr.id) ++ [.int .i64 x.id])) := hown2; clear k3 k4 hown2 hgrow2 r0 r1 r2 r3 r4 f0 f1 f2 f3 f4 d0 d1 d2 d3 d4; obtain ⟨⟨r0, r1, r2, r3, r4⟩, f0, f1, f2, f3, f4⟩ := row_five k1; obtain ⟨⟨p0, p1, p2, p3, p4⟩, _⟩ := row_five k2; clear k1 k2)
          go_wp2
          go_roundw
          case rel => exact ⟨i + 1, _, by omega, by go_num, (by rw [HT.out]; exact LfI.put (w2 := w2) (by omega) HW.out.1 HW.out.2 (by rw [hll]; exact HO2.out) (fun k hk => by rw [Below.heap_setCell _ ⟨W.heap.size + 1 + 1, 3, none⟩ _ _ hk, Below.heap_setCell _ ⟨W.heap.size + 1 + 1, 4, none⟩ _ _ hk]) ⟨rfl, rfl, rfl, by simp⟩ (row_setC (j := 3) (row_setC (j := 4) HG2.out)) (by rw [lvR_snoc]; simp [h3]) (by rw [lvD_snoc]; simp [h1]))⟩
          case measure => simp [intOf]; omega
    · obtain rfl : i = path.length + 1 := by omega
      have HI2 : Hid (LfI w1.heap.size (W.heap.size + 1 + 1) w1 t (path ++ [t]) wr pv) := (by have := HI.out; rw [List.take_of_length_le (by omega)] at this; exact this)
      clear HI
      obtain ⟨⟨r0, r1, r2, r3, r4⟩, f0, f1, f2, f3, f4⟩ := row_five HI2.out.leaf
      have HR2 : Hid (wr.heap[W.heap.size + 1]? = some (.cells #[.int .i64 0, .int .i64 0, .int .i64 0, .int .i64 0, .slice none 0 0] 40 (0, 0))) := (HI2.out.old _ (by omega) (by omega)).trans HR1.out
      obtain ⟨⟨s0, s1, s2, s3, s4⟩, t0, t1, t2, t3, t4⟩ := row_five HR2.out
      have hown := HI2.out.row
      rw [hpn] at hown
      obtain ⟨g2, cap2, rfl⟩ := own_shape hown
      have HO : Hid (wr.ownsRow w1.heap.size 3 1 (.slice (some ⟨g2, 0, none⟩) (path.length + 1) cap2) (path.length + 1) (i64s ((path ++ [t]).map Tr.id))) := hown
      clear hown
      have HRw : Hid _ := row_setC (j := 4) (v := .slice (some ⟨g2, 0, none⟩) (path.length + 1) cap2) (row_setC (j := 3) (v := .int .i64 (lvD (path ++ [t]) : Nat)) (row_setC (j := 2) (v := .int .i64 (lvR (path ++ [t]) : Nat)) (row_setC (j := 1) (v := .int .i64 t.kind) (row_setC (j := 0) (v := .int .i64 t.id) HR2.out))))
      have HBr : Hid (Below W.heap.size W wr) := HB1.out.trans ⟨HI2.out.os, HI2.out.tape, HI2.out.output, HI2.out.size, fun k hk => HI2.out.old k (by omega) (by omega)⟩
      go_wp2
      refine bodyPost_ret (v := .agg #[.int .i64 t.id, .int .i64 t.kind, .int .i64 (lvR (path ++ [t]) : Nat), .int .i64 (lvD (path ++ [t]) : Nat), .slice (some ⟨g2, 0, none⟩) (path.length + 1) cap2]) (results_cell_row Tryz.results20 _ _ (W.heap.size + 1) 40 #[.int .i64 t.id, .int .i64 t.kind, .int .i64 (lvR (path ++ [t]) : Nat), .int .i64 (lvD (path ++ [t]) : Nat), .slice (some ⟨g2, 0, none⟩) (path.length + 1) cap2] (0, 0) _ rfl HRw.out Tryz.underlying40 rfl (by kernel_rfl)) rfl ⟨⟨_, _, _, rfl, ?_⟩, ?_⟩
      · refine own_same (w := wr) ⟨HO.out.1, HO.out.2.imp id (fun ⟨g, cap, cur, h1, h2, h3⟩ => ⟨g, cap, cur, h1, by omega, h3⟩)⟩ fun k hk => ?_
        have hk2 := (own_block HO.out hk).1
        have hne : k ≠ W.heap.size + 1 := by omega
        rw [Below.heap_setCell _ ⟨W.heap.size + 1, 4, none⟩ _ _ hne, Below.heap_setCell _ ⟨W.heap.size + 1, 3, none⟩ _ _ hne, Below.heap_setCell _ ⟨W.heap.size + 1, 2, none⟩ _ _ hne, Below.heap_setCell _ ⟨W.heap.size + 1, 1, none⟩ _ _ hne, Below.heap_setCell _ ⟨W.heap.size + 1, 0, none⟩ _ _ hne]
      · exact ((((HBr.out.setCell (by simp) _).setCell (by simp) _).setCell (by simp) _).setCell (by simp) _).setCell (by simp) _
end Go.Proofs.YtajaoglnembkpaaGreatDoor
