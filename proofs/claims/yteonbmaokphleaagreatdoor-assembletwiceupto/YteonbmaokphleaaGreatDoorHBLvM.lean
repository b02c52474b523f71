/-
  A schema's leaves by going up from each, and by walking down: the same; the words, without the program.
  The leaves of a projection are some of the schema's, with the same levels.
  schema.leafOf: what is told of a leaf.
  schema.Leaves: the leaves in order.
  A schema's leaves by the walk.
  schema.Leaves of a schema that is not right.
  shred's columns: bounds, levels, how many.
-/
import Derived.Test.YteonbmaokphleaaGreatDoorHBIds
import Derived.Test.YteonbmaokphleaaGreatDoorHBLfM
import Derived.Test.YteonbmaokphleaaGreatDoorHPathTo
import Derived.Test.YteonbmaokphleaaGreatDoorHBPackF
import Derived.Test.YteonbmaokphleaaGreatDoorHBWalkP
import Derived.RegionTactic
import Derived.Deep.QuietTactic
import Derived.BigQuiet
import Derived.Deep.RegionWith
namespace Go.Proofs.YteonbmaokphleaaGreatDoor
open Go.RowKit
mutual
def lvT (p : List Tr) : Tr → List Lf
 | .node id nm rep kind sub => (if kind = 0 then [] else [lfO (.node id nm rep kind sub) p]) ++ lvL (p ++ [.node id nm rep kind sub]) sub
def lvL (p : List Tr) : List Tr → List Lf
 | [] => []
 | t :: ts => lvT p t ++ lvL p ts
end
inductive Up (l : List Pc) : Nat → List Tr → Prop
 | top : Up l 0 []
 | step {k q : Nat} {e : Pc} {p : List Tr} (hk : 0 < k) (he : l[k]? = some e) (ha : e.around = (q : Int)) (hq : q < k) (hp : Up l q p) : Up l k (p ++ [e.t])
theorem Up.pos {l : List Pc} {k : Nat} {p : List Tr} (h : Up l k p) (hk : 0 < k) : ∃ (q : Nat) (e : Pc) (p' : List Tr), l[k]? = some e ∧ e.around = (q : Int) ∧ q < k ∧ Up l q p' ∧ p = p' ++ [e.t] := by
 cases h with
 | top => omega
 | step hk he ha hq hp => exact ⟨_, _, _, he, ha, hq, hp, rfl⟩
theorem Up.zero {l : List Pc} {p : List Tr} (h : Up l 0 p) : p = [] := by
 cases h with
 | top => rfl
 | step hk he ha hq hp => omega
theorem Up.len {l : List Pc} {k : Nat} {p : List Tr} (h : Up l k p) : p.length ≤ k := by
 induction h with
 | top => simp
 | step hk he ha hq hp ih => simp; omega
def PE (p p' : List Tr) : Prop := p.map Tr.id = p'.map Tr.id ∧ lvR p = lvR p' ∧ lvD p = lvD p'
theorem PE.snoc {p p' : List Tr} {t t' : Tr} (h : PE p p') (hi : t.id = t'.id) (hr : t.rep = t'.rep) : PE (p ++ [t]) (p' ++ [t']) := by
 refine ⟨?_, ?_, ?_⟩
 · rw [List.map_append, List.map_append, h.1]
   simp [hi]
 · rw [lvR_snoc, lvR_snoc, h.2.1, hr]
 · rw [lvD_snoc, lvD_snoc, h.2.2, hr]
theorem PE.lf {p p' : List Tr} {t t' : Tr} (h : PE p p') (hi : t.id = t'.id) (hk : t.kind = t'.kind) (hr : t.rep = t'.rep) : lfO t p = lfO t' p' := by
 obtain ⟨h1, h2, h3⟩ := h.snoc hi hr
 unfold lfO
 rw [h1, h2, h3, hi, hk]
mutual
theorem lv_idsT : ∀ (t : Tr) (p : List Tr), (lvT p t).map Lf.id = lfI (ndT t)
 | .node id nm rep kind sub, p => by
  rw [lvT, lfI_nd, List.map_append, lv_idsL sub]
  show _ = (if kind = 0 then [] else [id]) ++ lfI (ndL sub)
  congr 1
  split
  · rfl
  · rfl
theorem lv_idsL : ∀ (ts : List Tr) (p : List Tr), (lvL p ts).map Lf.id = lfI (ndL ts)
 | [], p => by simp [lvL, ndL, lfI]
 | t :: ts, p => by
  rw [lvL, ndL, List.map_append, lfI_app, lv_idsT t p, lv_idsL ts p]
end
theorem rk_lv (L : List Int) : ∀ (n : Nat) (ts : List Tr), SizeOf.sizeOf ts < n → (∀ c ∈ ts, LfOk c) → ∀ (p p' : List Tr), PE p p' → lvL p' (rkL L ts) = (lvL p ts).filter (fun f => L.contains f.id)
 | 0, ts, h => absurd h (Nat.not_lt_zero _)
 | n + 1, [], hsz => fun hl p p' _ => by simp [rkL, lvL]
 | n + 1, .node id nm rep kind sub :: ts, hsz => fun hl p p' hp => by
  have ih := rk_lv L n ts (by simp at hsz; omega) (fun c h => hl c (by simp [h])) p p' hp
  have ih2 := rk_lv L n sub (by simp at hsz; omega) (fun c h => (hl (.node id nm rep kind sub) (by simp)).sub h) (p ++ [.node id nm rep kind sub]) (p' ++ [rkT L (.node id nm rep kind sub)]) (hp.snoc (rkT_id L (.node id nm rep kind sub)).1.symm (rkT_id L (.node id nm rep kind sub)).2.2.1.symm)
  have hids := lv_idsT (.node id nm rep kind sub) p
  rw [lvL, List.filter_append, ← ih, rkL_cons]
  cases h : kept L (.node id nm rep kind sub) with
  | true =>
   rw [if_pos rfl, lvL]
   congr 1
   rw [lvT, List.filter_append, ← ih2]
   rw [rkT] at ih2 ⊢
   rw [lvT]
   congr 1
   by_cases hk : kind = 0
   · rw [if_pos hk, if_pos hk]
     rfl
   · rw [if_neg hk, if_neg hk]
     have hs : sub = [] := hl (.node id nm rep kind sub) (by simp) (.node id nm rep kind sub) (nd_self _) hk
     subst hs
     have hc : L.contains id = true := by
      obtain ⟨i, hi, hci⟩ := List.any_eq_true.1 h
      rw [lfI_nd, if_neg (show ¬ (Tr.node id nm rep kind []).kind = 0 from hk)] at hi
      have hi2 : i = id := by simpa [ndL, lfI, Tr.sub, Tr.id] using hi
      rw [← hi2]
      exact hci
     have e : lfO (.node id nm rep kind (rkL L [])) p' = lfO (.node id nm rep kind []) p := (hp.lf (t := .node id nm rep kind []) (t' := .node id nm rep kind (rkL L [])) rfl rfl rfl).symm
     rw [e, List.filter_cons_of_pos (by exact hc), List.filter_nil]
  | false =>
   rw [if_neg (by simp)]
   have hn : (lvT p (.node id nm rep kind sub)).filter (fun f => L.contains f.id) = [] := by
    rw [List.filter_eq_nil_iff]
    intro f hf hc
    have hm : f.id ∈ lfI (ndT (.node id nm rep kind sub)) := by rw [← hids]; exact List.mem_map_of_mem hf
    have h2 : kept L (.node id nm rep kind sub) = true := List.any_eq_true.2 ⟨f.id, hm, hc⟩
    rw [h] at h2
    cases h2
   rw [hn, List.nil_append]
theorem rk_leaves (L : List Int) (t : Tr) (hl : LfOk t) : lvL [] (rkT L t).sub = (lvL [] t.sub).filter (fun f => L.contains f.id) := by
 rw [(rkT_id L t).2.2.2.2]
 exact rk_lv L _ t.sub (Nat.lt_succ_self _) (fun c hc => hl.sub hc) [] [] ⟨rfl, rfl, rfl⟩
theorem lvR_le (l : List Tr) : lvR l ≤ l.length := List.length_filter_le _ _
theorem lvD_le (l : List Tr) : lvD l ≤ l.length := List.length_filter_le _ _
structure LfI (N g : Nat) (w1 : World) (t : Tr) (l : List Tr) (wr : World) (pv : Value) : Prop where
 os : wr.os = w1.os
 tape : wr.tape = w1.tape
 output : wr.output = w1.output
 size : w1.heap.size ≤ wr.heap.size
 old : ∀ k, k < N → k ≠ g → wr.heap[k]? = w1.heap[k]?
 leaf : wr.heap[g]? = some (.cells #[.int .i64 t.id, .int .i64 t.kind, .int .i64 (lvR l : Nat), .int .i64 (lvD l : Nat), pv] 72 (0, 0))
 row : wr.ownsRow N 3 1 pv l.length (i64s (l.map Tr.id))
theorem LfI.alloc {N g : Nat} {w1 : World} {t : Tr} {l : List Tr} {wr : World} {pv : Value} (h : LfI N g w1 t l wr pv) (hN : N ≤ w1.heap.size) (o : Obj) : LfI N g w1 t l (wr.alloc o) pv := by
 have hs := h.size
 exact ⟨h.os, h.tape, h.output, by simp; omega, fun k hk hne => by rw [heap_alloc_old wr o (by omega)]; exact h.old k hk hne, blk_alloc h.leaf, h.row.alloc o⟩
theorem LfI.blocks {N g : Nat} {w1 : World} {t : Tr} {l : List Tr} {wr w2 : World} {pv : Value} {x : Tr} {a1 : Option Addr} {c1 : Nat} {o2 : Obj} (h : LfI N g w1 t l wr pv) (hN : N ≤ w1.heap.size) (hg : g < N)
    (hgr : ((wr.alloc (.cells #[.int .i64 x.id, .string x.nm, .int .i64 x.rep, .int .i64 x.kind, .slice a1 x.sub.length c1] 24)).alloc o2).grownBy w2 pv.ownBlock) :
    w2.heap[g]? = some (.cells #[.int .i64 t.id, .int .i64 t.kind, .int .i64 (lvR l : Nat), .int .i64 (lvD l : Nat), pv] 72 (0, 0)) ∧ w2.heap[wr.heap.size]? = some (.cells #[.int .i64 x.id, .string x.nm, .int .i64 x.rep, .int .i64 x.kind, .slice a1 x.sub.length c1] 24 (0, 0)) ∧ (∀ k, k < N → k ≠ g → w2.heap[k]? = w1.heap[k]?) ∧ w2.os = w1.os ∧ w2.tape = w1.tape ∧ w2.output = w1.output ∧ w1.heap.size ≤ w2.heap.size := by
 have hs := h.size
 have hlt := lt_of_block h.leaf
 have hpv : ∀ k, pv.ownBlock = some k → N ≤ k ∧ k < wr.heap.size := fun k hk => ⟨(own_block h.row hk).1, (own_block h.row hk).2.1⟩
 refine ⟨?_, ?_, fun k hk hne => ?_, hgr.os.trans h.os, hgr.tape.trans h.tape, hgr.output.trans h.output, by have := hgr.size; simp at this; omega⟩
 · rw [hgr.block g (by simp; omega) (fun e => by have := hpv g e.symm; omega)]
   exact blk_alloc (blk_alloc h.leaf)
 · rw [hgr.block wr.heap.size (by simp; omega) (fun e => by have := hpv _ e.symm; omega)]
   exact blk_alloc (heap_alloc_new wr _)
 · rw [hgr.block k (by simp; omega) (fun e => by have := hpv k e.symm; omega), heap_alloc_old _ o2 (by simp; omega), heap_alloc_old wr _ (by omega)]
   exact h.old k hk hne
theorem LfI.put {N g : Nat} {w1 : World} {t : Tr} {l : List Tr} {w2 w3 : World} {x : Tr} {pv2 : Value} {mr md : Int} (hg : g < N) (hold : ∀ k, k < N → k ≠ g → w2.heap[k]? = w1.heap[k]?) (ho : w2.os = w1.os ∧ w2.tape = w1.tape ∧ w2.output = w1.output ∧ w1.heap.size ≤ w2.heap.size)
    (hown : w2.ownsRow N 3 1 pv2 (l.length + 1) (i64s (l.map Tr.id) ++ [.int .i64 x.id])) (h3 : ∀ k, k ≠ g → w3.heap[k]? = w2.heap[k]?) (h4 : w3.os = w2.os ∧ w3.tape = w2.tape ∧ w3.output = w2.output ∧ w3.heap.size = w2.heap.size)
    (hl : w3.heap[g]? = some (.cells #[.int .i64 t.id, .int .i64 t.kind, .int .i64 mr, .int .i64 md, pv2] 72 (0, 0))) (hmr : mr = (lvR (l ++ [x]) : Nat)) (hmd : md = (lvD (l ++ [x]) : Nat)) : LfI N g w1 t (l ++ [x]) w3 pv2 := by
 subst hmr hmd
 refine ⟨h4.1.trans ho.1, h4.2.1.trans ho.2.1, h4.2.2.1.trans ho.2.2.1, by rw [h4.2.2.2]; exact ho.2.2.2, fun k hk hne => (h3 k hne).trans (hold k hk hne), hl, ?_⟩
 rw [List.length_append]
 have e : i64s ((l ++ [x]).map Tr.id) = i64s (l.map Tr.id) ++ [.int .i64 x.id] := by simp [i64s]
 rw [e]
 exact own_same hown fun k hk => h3 k (fun e => by have := (own_block hown hk).1; omega)
set_option maxRecDepth 100000 in
set_option maxHeartbeats 1600000 in
theorem leafOf_any (t : Tr) (a : Option Addr) (c : Nat) (hc : t.sub.length ≤ c) (path : List Tr) (b o vc : Nat) (hn : path.length ≤ 1000000) (W : World) (hl : LiesN W (fun b => b < W.heap.size) a t.sub) (hp : LiesN W (fun b => b < W.heap.size) (some ⟨b, o, none⟩) path) :
    Calls Tryz.prog 40 #[nodeV t a c, .slice (some ⟨b, o, none⟩) path.length vc] W fun e w' => (∃ a' n' c', e = .returned (.agg #[.int .i64 t.id, .int .i64 t.kind, .int .i64 (lvR (path ++ [t]) : Nat), .int .i64 (lvD (path ++ [t]) : Nat), .slice a' n' c']) ∧ w'.ownsRow W.heap.size 3 1 (.slice a' n' c') (path.length + 1) (i64s ((path ++ [t]).map Tr.id))) ∧ Below W.heap.size W w' := by
 obtain ⟨iv, hvi, hv0, hv1, hv2⟩ := info_parts Tryz.infoI
 have hb3 : Below W.heap.size W (((W.alloc (.cells #[.int .i64 t.id, .string t.nm, .int .i64 t.rep, .int .i64 t.kind, .slice a t.sub.length c] 24)).alloc (.cells #[.int .i64 0, .int .i64 0, .int .i64 0, .int .i64 0, .slice none 0 0] 72)).alloc (.cells #[.int .i64 t.id, .int .i64 t.kind, .int .i64 0, .int .i64 0, .slice none 0 0] 72)) := (((Below.refl _ _).alloc (Nat.le_refl _) _).alloc (by simp) _).alloc (by simp; omega) _
 have HP : Hid _ := pathTo_any t a c hc path b o vc (by omega) (fun b => b < W.heap.size) _ (hl.stay (fun _ h _ => h) (fun b _ h => hb3.block b h)) (hp.stay (fun _ h _ => h) (fun b _ h => hb3.block b h))
 have HB3 : Hid _ := hb3
 have HR : Hid ((((W.alloc (.cells #[.int .i64 t.id, .string t.nm, .int .i64 t.rep, .int .i64 t.kind, .slice a t.sub.length c] 24)).alloc (.cells #[.int .i64 0, .int .i64 0, .int .i64 0, .int .i64 0, .slice none 0 0] 72)).alloc (.cells #[.int .i64 t.id, .int .i64 t.kind, .int .i64 0, .int .i64 0, .slice none 0 0] 72)).heap[W.heap.size + 1]? = some (.cells #[.int .i64 0, .int .i64 0, .int .i64 0, .int .i64 0, .slice none 0 0] 72 (0, 0))) := by
  have h := heap_alloc_new (W.alloc (.cells #[.int .i64 t.id, .string t.nm, .int .i64 t.rep, .int .i64 t.kind, .slice a t.sub.length c] 24)) (.cells #[.int .i64 0, .int .i64 0, .int .i64 0, .int .i64 0, .slice none 0 0] 72)
  rw [show (W.alloc (.cells #[.int .i64 t.id, .string t.nm, .int .i64 t.rep, .int .i64 t.kind, .slice a t.sub.length c] 24)).heap.size = W.heap.size + 1 by simp] at h
  exact blk_alloc h
 have HL : Hid ((((W.alloc (.cells #[.int .i64 t.id, .string t.nm, .int .i64 t.rep, .int .i64 t.kind, .slice a t.sub.length c] 24)).alloc (.cells #[.int .i64 0, .int .i64 0, .int .i64 0, .int .i64 0, .slice none 0 0] 72)).alloc (.cells #[.int .i64 t.id, .int .i64 t.kind, .int .i64 0, .int .i64 0, .slice none 0 0] 72)).heap[W.heap.size + 1 + 1]? = some (.cells #[.int .i64 t.id, .int .i64 t.kind, .int .i64 0, .int .i64 0, .slice none 0 0] 72 (0, 0))) := by
  have h := heap_alloc_new ((W.alloc (.cells #[.int .i64 t.id, .string t.nm, .int .i64 t.rep, .int .i64 t.kind, .slice a t.sub.length c] 24)).alloc (.cells #[.int .i64 0, .int .i64 0, .int .i64 0, .int .i64 0, .slice none 0 0] 72)) (.cells #[.int .i64 t.id, .int .i64 t.kind, .int .i64 0, .int .i64 0, .slice none 0 0] 72)
  rw [show ((W.alloc (.cells #[.int .i64 t.id, .string t.nm, .int .i64 t.rep, .int .i64 t.kind, .slice a t.sub.length c] 24)).alloc (.cells #[.int .i64 0, .int .i64 0, .int .i64 0, .int .i64 0, .slice none 0 0] 72)).heap.size = W.heap.size + 1 + 1 by simp] at h
  exact h
 clear hl hp hb3
 go_enter Tryz.func40, Tryz.ntmps40
 go_wp2_with fail
 refine Calls.mono HP.out ?_
 rintro e w1 ⟨⟨pa, pc, rfl, hpl⟩, hb1⟩
 clear HP
 have hs1 := hb1.size
 simp only [World.size_alloc] at hs1
 have HB1 : Hid (Below W.heap.size W w1) := HB3.out.trans (hb1.mono HB3.out.size)
 have HR1 : Hid (w1.heap[W.heap.size + 1]? = some (.cells #[.int .i64 0, .int .i64 0, .int .i64 0, .int .i64 0, .slice none 0 0] 72 (0, 0))) := blk_keep hb1 HR.out
 have HI : Hid (LfI w1.heap.size (W.heap.size + 1 + 1) w1 t ((path ++ [t]).take 0) w1 (.slice none 0 0)) := ⟨rfl, rfl, rfl, Nat.le_refl _, fun _ _ _ => rfl, blk_keep hb1 HL.out, World.ownsRow_nil _ _ _ _⟩
 have HPL : Hid (LiesN w1 (fun b => b < w1.heap.size ∧ b ≠ W.heap.size + 1 + 1) pa (path ++ [t])) := hpl.stay (fun b h hlt => ⟨hlt, by simp at h; omega⟩) (fun _ _ _ => rfl)
 have hpn : (path ++ [t]).length = path.length + 1 := by simp
 clear hb1 hpl HL HR HB3
 go_wp2
 go_loopw [17] (fun x wr => ∃ (i : Nat) (pv : Value), i ≤ path.length + 1 ∧ x = .int .i64 i ∧ Hid (LfI w1.heap.size (W.heap.size + 1 + 1) w1 t ((path ++ [t]).take i) wr pv)) (fun x _ => path.length + 1 - (intOf x).toNat)
 case atStart => exact ⟨0, _, Nat.zero_le _, rfl, HI⟩
 case round =>
  clear HI
  obtain ⟨i, pv, hik, rfl, HI⟩ := hrel
  have hsr := HI.out.size
  by_cases hlt : i < path.length + 1
  · have hlt' : i < (path ++ [t]).length := by omega
    obtain ⟨b', o', a1, c1, ea, d0, d1, d2, d3, d4, _⟩ := (HPL.out.stay (W' := wr) (Q := fun _ => True) (fun _ _ _ => trivial) (fun b h _ => HI.out.old b h.1 h.2)).at_ i hlt'
    subst ea
    obtain ⟨x, hx⟩ : ∃ x, x = (path ++ [t])[i] := ⟨_, rfl⟩
    rw [← hx] at d0 d1 d2 d3 d4
    obtain ⟨l, hl⟩ : ∃ l, l = (path ++ [t]).take i := ⟨_, rfl⟩
    have HT : Hid ((path ++ [t]).take (i + 1) = l ++ [x]) := (by show _ = _; rw [hl, hx, List.take_succ_eq_append_getElem hlt'])
    have HI' : Hid (LfI w1.heap.size (W.heap.size + 1 + 1) w1 t l wr pv) := (by rw [hl]; exact HI.out)
    have hll : l.length = i := by rw [hl, List.length_take]; omega
    have hlr := lvR_le l
    have hld := lvD_le l
    clear HI hl hx
    have HO : Hid (wr.ownsRow w1.heap.size 3 1 pv i (i64s (l.map Tr.id))) := (by have := HI'.out.row; rw [hll] at this; exact this)
    by_cases h3 : x.rep = 3
    · have q3 : (x.rep == 3) = true := by simp [h3]
      have q1 : (x.rep == 1) = false := by rw [h3]; rfl
      have H3 : Hid (x.rep = 3) := h3
      clear h3
      obtain ⟨⟨r0, r1, r2, r3, r4⟩, f0, f1, f2, f3, f4⟩ := row_five (blk_alloc (o' := .cells #[.int .i64 x.id, .string x.nm, .int .i64 x.rep, .int .i64 x.kind, .slice a1 x.sub.length c1] 24) HI'.out.leaf)
      go_wp2_with (at_builtin; refine wpList_append_own _ rfl _ _ 25 rfl w1.heap.size 3 iv (.int .i64 0) 1 8 Tryz.underlying25 hvi hv0 hv1 hv2 rfl (by decide) _ i (i64s (l.map Tr.id)) rfl ((HO.out.alloc _).alloc _) ⟨wr.heap.size + 1, 0, none⟩ 1 1 [.int .i64 x.id] rfl rfl (by intro j u hu; have h := cell_one_new (wr.alloc (.cells #[.int .i64 x.id, .string x.nm, .int .i64 x.rep, .int .i64 x.kind, .slice a1 x.sub.length c1] 24)) (.int .i64 x.id) 3 j u hu; simpa using h) (by intro u hu; simp at hu; subst hu; rfl) (by unfold maxLen; omega) (by omega) (by simp; omega) ?_; intro v2 w2 hown2 hgrow2 _; obtain ⟨g2, cap2, rfl⟩ := own_shape hown2; obtain ⟨k1, k2, k3, k4⟩ := HI'.out.blocks (Nat.le_refl _) (by omega) hgrow2; have HW : Hid _ := And.intro k3 k4; have HG2 : Hid _ := k1; have HO2 : Hid (w2.ownsRow w1.heap.size 3 1 (.slice (some ⟨g2, 0, none⟩) (i + 1) cap2) (i + 1) (i64s (l.map Tr.id) ++ [.int .i64 x.id])) := hown2; clear k3 k4 hown2 hgrow2 r0 r1 r2 r3 r4 f0 f1 f2 f3 f4 d0 d1 d2 d3 d4; obtain ⟨⟨r0, r1, r2, r3, r4⟩, f0, f1, f2, f3, f4⟩ := row_five k1; obtain ⟨⟨p0, p1, p2, p3, p4⟩, _⟩ := row_five k2; clear k1 k2)
      go_wp2
      go_roundw
      case rel => exact ⟨i + 1, _, by omega, by go_num, (by rw [HT.out]; exact LfI.put (w2 := w2) (by omega) HW.out.1 HW.out.2 (by rw [hll]; exact HO2.out) (fun k hk => by rw [Below.heap_setCell _ ⟨W.heap.size + 1 + 1, 3, none⟩ _ _ hk, Below.heap_setCell _ ⟨W.heap.size + 1 + 1, 2, none⟩ _ _ hk, Below.heap_setCell _ ⟨W.heap.size + 1 + 1, 4, none⟩ _ _ hk]) ⟨rfl, rfl, rfl, by simp⟩ (row_setC (j := 3) (row_setC (j := 2) (row_setC (j := 4) HG2.out))) (by rw [lvR_snoc]; simp [H3.out]) (by rw [lvD_snoc]; simp [H3.out]))⟩
      case measure => simp [intOf]; omega
    · by_cases h1 : x.rep = 1
      · have q3 : (x.rep == 3) = false := by simp [h3]
        have q1 : (x.rep == 1) = true := by simp [h1]
        have H1 : Hid (x.rep = 1) := h1
        clear h1
        obtain ⟨⟨r0, r1, r2, r3, r4⟩, f0, f1, f2, f3, f4⟩ := row_five (blk_alloc (o' := .cells #[.int .i64 x.id, .string x.nm, .int .i64 x.rep, .int .i64 x.kind, .slice a1 x.sub.length c1] 24) HI'.out.leaf)
        go_wp2_with (at_builtin; refine wpList_append_own _ rfl _ _ 25 rfl w1.heap.size 3 iv (.int .i64 0) 1 8 Tryz.underlying25 hvi hv0 hv1 hv2 rfl (by decide) _ i (i64s (l.map Tr.id)) rfl ((HO.out.alloc _).alloc _) ⟨wr.heap.size + 1, 0, none⟩ 1 1 [.int .i64 x.id] rfl rfl (by intro j u hu; have h := cell_one_new (wr.alloc (.cells #[.int .i64 x.id, .string x.nm, .int .i64 x.rep, .int .i64 x.kind, .slice a1 x.sub.length c1] 24)) (.int .i64 x.id) 3 j u hu; simpa using h) (by intro u hu; simp at hu; subst hu; rfl) (by unfold maxLen; omega) (by omega) (by simp; omega) ?_; intro v2 w2 hown2 hgrow2 _; obtain ⟨g2, cap2, rfl⟩ := own_shape hown2; obtain ⟨k1, k2, k3, k4⟩ := HI'.out.blocks (Nat.le_refl _) (by omega) hgrow2; have HW : Hid _ := And.intro k3 k4; have HG2 : Hid _ := k1; have HO2 : Hid (w2.ownsRow w1.heap.size 3 1 (.slice (some ⟨g2, 0, none⟩) (i + 1) cap2) (i + 1) (i64s (l.map Tr.id) ++ [.int .i64 x.id])) := hown2; clear k3 k4 hown2 hgrow2 r0 r1 r2 r3 r4 f0 f1 f2 f3 f4 d0 d1 d2 d3 d4; obtain ⟨⟨r0, r1, r2, r3, r4⟩, f0, f1, f2, f3, f4⟩ := row_five k1; obtain ⟨⟨p0, p1, p2, p3, p4⟩, _⟩ := row_five k2; clear k1 k2)
        go_wp2
        go_roundw
        case rel => exact ⟨i + 1, _, by omega, by go_num, (by rw [HT.out]; exact LfI.put (w2 := w2) (by omega) HW.out.1 HW.out.2 (by rw [hll]; exact HO2.out) (fun k hk => by rw [Below.heap_setCell _ ⟨W.heap.size + 1 + 1, 4, none⟩ _ _ hk]) ⟨rfl, rfl, rfl, by simp⟩ (row_setC (j := 4) HG2.out) (by rw [lvR_snoc]; simp [H1.out]) (by rw [lvD_snoc]; simp [H1.out]))⟩
        case measure => simp [intOf]; omega
      · have q3 : (x.rep == 3) = false := by simp [h3]
        have q1 : (x.rep == 1) = false := by simp [h1]
        obtain ⟨⟨r0, r1, r2, r3, r4⟩, f0, f1, f2, f3, f4⟩ := row_five (blk_alloc (o' := .cells #[.int .i64 x.id, .string x.nm, .int .i64 x.rep, .int .i64 x.kind, .slice a1 x.sub.length c1] 24) HI'.out.leaf)
        go_wp2_with (at_builtin; refine wpList_append_own _ rfl _ _ 25 rfl w1.heap.size 3 iv (.int .i64 0) 1 8 Tryz.underlying25 hvi hv0 hv1 hv2 rfl (by decide) _ i (i64s (l.map Tr.id)) rfl ((HO.out.alloc _).alloc _) ⟨wr.heap.size + 1, 0, none⟩ 1 1 [.int .i64 x.id] rfl rfl (by intro j u hu; have h := cell_one_new (wr.alloc (.cells #[.int .i64 x.id, .string x.nm, .int .i64 x.rep, .int .i64 x.kind, .slice a1 x.sub.length c1] 24)) (.int .i64 x.id) 3 j u hu; simpa using h) (by intro u hu; simp at hu; subst hu; rfl) (by unfold maxLen; omega) (by omega) (by simp; omega) ?_; intro v2 w2 hown2 hgrow2 _; obtain ⟨g2, cap2, rfl⟩ := own_shape hown2; obtain ⟨k1, k2, k3, k4⟩ := HI'.out.blocks (Nat.le_refl _) (by omega) hgrow2; have HW : Hid _ := And.intro k3 k4; have HG2 : Hid _ := k1; have HO2 : Hid (w2.ownsRow w1.heap.size 3 1 (.slice (some ⟨g2, 0, none⟩) (i + 1) cap2) (i + 1) (i64s (l.map Tr.id) ++ [.int .i64 x.id])) := hown2; clear k3 k4 hown2 hgrow2 r0 r1 r2 r3 r4 f0 f1 f2 f3 f4 d0 d1 d2 d3 d4; obtain ⟨⟨r0, r1, r2, r3, r4⟩, f0, f1, f2, f3, f4⟩ := row_five k1; obtain ⟨⟨p0, p1, p2, p3, p4⟩, _⟩ := row_five k2; clear k1 k2)
        go_wp2
        go_roundw
        case rel => exact ⟨i + 1, _, by omega, by go_num, (by rw [HT.out]; exact LfI.put (w2 := w2) (by omega) HW.out.1 HW.out.2 (by rw [hll]; exact HO2.out) (fun k hk => by rw [Below.heap_setCell _ ⟨W.heap.size + 1 + 1, 3, none⟩ _ _ hk, Below.heap_setCell _ ⟨W.heap.size + 1 + 1, 4, none⟩ _ _ hk]) ⟨rfl, rfl, rfl, by simp⟩ (row_setC (j := 3) (row_setC (j := 4) HG2.out)) (by rw [lvR_snoc]; simp [h3]) (by rw [lvD_snoc]; simp [h1]))⟩
        case measure => simp [intOf]; omega
  · obtain rfl : i = path.length + 1 := by omega
    have HI2 : Hid (LfI w1.heap.size (W.heap.size + 1 + 1) w1 t (path ++ [t]) wr pv) := (by have := HI.out; rw [List.take_of_length_le (by omega)] at this; exact this)
    clear HI
    obtain ⟨⟨r0, r1, r2, r3, r4⟩, f0, f1, f2, f3, f4⟩ := row_five HI2.out.leaf
    have HR2 : Hid (wr.heap[W.heap.size + 1]? = some (.cells #[.int .i64 0, .int .i64 0, .int .i64 0, .int .i64 0, .slice none 0 0] 72 (0, 0))) := (HI2.out.old _ (by omega) (by omega)).trans HR1.out
    obtain ⟨⟨s0, s1, s2, s3, s4⟩, t0, t1, t2, t3, t4⟩ := row_five HR2.out
    have hown := HI2.out.row
    rw [hpn] at hown
    obtain ⟨g2, cap2, rfl⟩ := own_shape hown
    have HO : Hid (wr.ownsRow w1.heap.size 3 1 (.slice (some ⟨g2, 0, none⟩) (path.length + 1) cap2) (path.length + 1) (i64s ((path ++ [t]).map Tr.id))) := hown
    clear hown
    have HRw : Hid _ := row_setC (j := 4) (v := .slice (some ⟨g2, 0, none⟩) (path.length + 1) cap2) (row_setC (j := 3) (v := .int .i64 (lvD (path ++ [t]) : Nat)) (row_setC (j := 2) (v := .int .i64 (lvR (path ++ [t]) : Nat)) (row_setC (j := 1) (v := .int .i64 t.kind) (row_setC (j := 0) (v := .int .i64 t.id) HR2.out))))
    have HBr : Hid (Below W.heap.size W wr) := HB1.out.trans ⟨HI2.out.os, HI2.out.tape, HI2.out.output, HI2.out.size, fun k hk => HI2.out.old k (by omega) (by omega)⟩
    go_wp2
    refine bodyPost_ret (v := .agg #[.int .i64 t.id, .int .i64 t.kind, .int .i64 (lvR (path ++ [t]) : Nat), .int .i64 (lvD (path ++ [t]) : Nat), .slice (some ⟨g2, 0, none⟩) (path.length + 1) cap2]) (results_cell_row Tryz.results40 _ _ (W.heap.size + 1) 72 #[.int .i64 t.id, .int .i64 t.kind, .int .i64 (lvR (path ++ [t]) : Nat), .int .i64 (lvD (path ++ [t]) : Nat), .slice (some ⟨g2, 0, none⟩) (path.length + 1) cap2] (0, 0) _ rfl HRw.out Tryz.underlying72 rfl (by kernel_rfl)) rfl ⟨⟨_, _, _, rfl, ?_⟩, ?_⟩
    · refine own_same (w := wr) ⟨HO.out.1, HO.out.2.imp id (fun ⟨g, cap, cur, h1, h2, h3⟩ => ⟨g, cap, cur, h1, by omega, h3⟩)⟩ fun k hk => ?_
      have hk2 := (own_block HO.out hk).1
      have hne : k ≠ W.heap.size + 1 := by omega
      rw [Below.heap_setCell _ ⟨W.heap.size + 1, 4, none⟩ _ _ hne, Below.heap_setCell _ ⟨W.heap.size + 1, 3, none⟩ _ _ hne, Below.heap_setCell _ ⟨W.heap.size + 1, 2, none⟩ _ _ hne, Below.heap_setCell _ ⟨W.heap.size + 1, 1, none⟩ _ _ hne, Below.heap_setCell _ ⟨W.heap.size + 1, 0, none⟩ _ _ hne]
    · exact ((((HBr.out.setCell (by simp) _).setCell (by simp) _).setCell (by simp) _).setCell (by simp) _).setCell (by simp) _
theorem Tryz.infoL : (Tryz.prog.info? 72).map (fun i => (i.zero, i.size, i.bytes)) = some (some (.agg #[.int .i64 0, .int .i64 0, .int .i64 0, .int .i64 0, .slice none 0 0]), 5, 56) := by kernel_rfl
def LvR (W : World) (N : Nat) (lv : Value) (ls : List Lf) : Prop :=
 ∃ pvs : List Value, pvs.length = ls.length ∧ W.ownsRow N 72 5 lv ls.length ((List.zipWith lfC ls pvs).flatten) ∧ ∀ j (h : j < ls.length) (h' : j < pvs.length), W.ownsRow N 3 1 pvs[j] ls[j].path.length (i64s ls[j].path)
def LvI (g N : Nat) (ls : List Lf) (W : World) : Prop := ∃ lv, W.heap[g]? = some (.cells #[lv] 64 (0, 0)) ∧ LvR W N lv ls
theorem LvR.stay {W w' : World} {N : Nat} {lv : Value} {ls : List Lf} (h : LvR W N lv ls) (hs : ∀ k cs e, W.heap[k]? = some (.cells cs e (0, 0)) → (e = 72 ∨ e = 3) → N ≤ k → w'.heap[k]? = W.heap[k]?) : LvR w' N lv ls := by
 obtain ⟨pvs, h1, h2, h3⟩ := h
 refine ⟨pvs, h1, own_same h2 fun k hk => ?_, fun j hj hj' => own_same (h3 j hj hj') fun k hk => ?_⟩
 · obtain ⟨q1, _, cs, q3⟩ := own_block h2 hk
   exact hs k cs _ q3 (.inl rfl) q1
 · obtain ⟨q1, _, cs, q3⟩ := own_block (h3 j hj hj') hk
   exact hs k cs _ q3 (.inr rfl) q1
theorem LvR.down {W : World} {N N' : Nat} {lv : Value} {ls : List Lf} (h : LvR W N lv ls) (hN : N' ≤ N) : LvR W N' lv ls := by
 obtain ⟨pvs, h1, h2, h3⟩ := h
 exact ⟨pvs, h1, ⟨h2.1, h2.2.imp id (fun ⟨g, cap, cur, e1, e2, e3⟩ => ⟨g, cap, cur, e1, by omega, e3⟩)⟩, fun j hj hj' => ⟨(h3 j hj hj').1, (h3 j hj hj').2.imp id (fun ⟨g, cap, cur, e1, e2, e3⟩ => ⟨g, cap, cur, e1, by omega, e3⟩)⟩⟩
theorem LvR.push {W w1 w2 : World} {N : Nat} {lv lv2 pv : Value} {ls : List Lf} {f : Lf} {pvs : List Value} {ob : Obj} (h1 : pvs.length = ls.length) (h3 : ∀ j (h : j < ls.length) (h' : j < pvs.length), W.ownsRow N 3 1 pvs[j] ls[j].path.length (i64s ls[j].path)) (h2 : W.ownsRow N 72 5 lv ls.length ((List.zipWith lfC ls pvs).flatten)) (hN : N ≤ W.heap.size) (hb : Below W.heap.size W w1) (hp : w1.ownsRow W.heap.size 3 1 pv f.path.length (i64s f.path))
    (hown : w2.ownsRow N 72 5 lv2 (ls.length + 1) ((List.zipWith lfC ls pvs).flatten ++ lfC f pv)) (hg : (w1.alloc ob).grownBy w2 lv.ownBlock) : LvR w2 N lv2 (ls ++ [f]) := by
 have hs := hb.size
 refine ⟨pvs ++ [pv], by simp [h1], ?_, fun j hj hj' => ?_⟩
 · rw [List.zipWith_append h1.symm, List.flatten_append]
   simpa using hown
 · by_cases hl : j < ls.length
   · rw [List.getElem_append_left (by omega), List.getElem_append_left hl]
     refine own_same (h3 j hl (by omega)) fun k hk => ?_
     obtain ⟨q1, q2, cs, q3⟩ := own_block (h3 j hl (by omega)) hk
     rw [hg.block k (by simp; omega) (own_type h2 q3 (by decide)), heap_alloc_old w1 ob (by omega), hb.block k q2]
   · have hj2 : j = ls.length := by simp at hj; omega
     subst hj2
     rw [List.getElem_append_right (by omega), List.getElem_append_right (by omega)]
     simp only [h1, Nat.sub_self, List.getElem_cons_zero]
     have hp' : w1.ownsRow N 3 1 pv f.path.length (i64s f.path) := ⟨hp.1, hp.2.imp id (fun ⟨g, cap, cur, e1, e2, e3⟩ => ⟨g, cap, cur, e1, by omega, e3⟩)⟩
     refine own_same hp' fun k hk => ?_
     obtain ⟨q1, q2, cs, q3⟩ := own_block hp hk
     rw [hg.block k (by simp; omega) (fun e => by have := (own_block h2 e.symm).2.1; omega), heap_alloc_old w1 ob q2]
theorem lv_len (ls : List Lf) (pvs : List Value) (h : pvs.length = ls.length) : (List.zipWith lfC ls pvs).flatten.length = ls.length * 5 := by
 rw [flat5_len _ (fun x hx => ?_)]
 · simp [h]
 · obtain ⟨i, hi, rfl⟩ := List.getElem_of_mem hx
   simp [lfC]
def stL (ls : List Lf) (path : List Tr) (t : Tr) : Bool × List Lf := (true, if t.kind = 0 then ls else ls ++ [lfO t path.tail])
set_option maxRecDepth 100000 in
set_option maxHeartbeats 1600000 in
theorem isLeaf_any (t : Tr) (a : Option Addr) (c : Nat) (W : World) : Calls Tryz.prog 39 #[nodeV t a c] W fun e w' => e = .returned (.bool (!(t.kind == 0))) ∧ Below W.heap.size W w' := by
 have HB : Hid (Below W.heap.size W (W.alloc (.cells #[.int .i64 t.id, .string t.nm, .int .i64 t.rep, .int .i64 t.kind, .slice a t.sub.length c] 24))) := (Below.refl _ _).alloc (Nat.le_refl _) _
 go_enter Tryz.func39, Tryz.ntmps39
 go_wp2
 go_ret
 exact ⟨rfl, HB.out⟩
theorem PathR.rest {W : World} {B Bw : Nat} {v : Value} {r : Tr} {rest : List Tr} (h : PathR W B Bw v (r :: rest)) : ∃ vb vc, v = .slice (some ⟨vb, 0, none⟩) (rest.length + 1) vc ∧ rest.length + 1 ≤ vc ∧ LiesN W (fun b => b < W.heap.size) (some ⟨vb, 5, none⟩) rest := by
 obtain ⟨ncs, h1, h2, h3, h4⟩ := h
 obtain ⟨a, c, e, hc, F, f1, f2⟩ := lies_of_row (P := fun b => b < W.heap.size) (ts := r :: rest) rfl h3 h1 h2 (fun j hj hj' => (h4 j hj hj').stay (fun b _ h => h) (fun _ _ _ => rfl)) (fun k hk => (own_block h3 hk).2.1)
 obtain ⟨b0, o0, x0, x1, x2, x3, x4, ea, _, _, _⟩ := f1 0 (by simp)
 have hz : o0 = 0 := by
  rcases h3.2 with ⟨_, h0⟩ | ⟨g, cap, cur, hv, _⟩
  · simp at h0
  · rw [e, ea] at hv
    injection hv with hv
    injection hv with hv
    injection hv
 subst hz ea e
 refine ⟨b0, c, rfl, by simpa using hc, fun j => F (j + 1), fun j hj => ?_, fun j hj => ?_⟩
 · obtain ⟨b', o', y0, y1, y2, y3, y4, e1, e2, e3, c0, c1, c2, c3, c4⟩ := f1 (j + 1) (by simp; omega)
   injection e1 with e1
   injection e1 with e1 e1' _
   subst e1 e1'
   refine ⟨b0, 5, y0, y1, y2, y3, y4, rfl, e2, e3, ?_, ?_, ?_, ?_, ?_⟩
   · rw [show 5 + j * 5 = 0 + (j + 1) * 5 by omega]; exact c0
   · rw [show 5 + j * 5 + 1 = 0 + (j + 1) * 5 + 1 by omega]; exact c1
   · rw [show 5 + j * 5 + 2 = 0 + (j + 1) * 5 + 2 by omega]; exact c2
   · rw [show 5 + j * 5 + 3 = 0 + (j + 1) * 5 + 3 by omega]; exact c3
   · rw [show 5 + j * 5 + 4 = 0 + (j + 1) * 5 + 4 by omega]; exact c4
 · exact f2 (j + 1) (by simp; omega)
set_option maxRecDepth 100000 in
set_option maxHeartbeats 3200000 in
theorem leaves1_any (g B Bw : Nat) (hB : B ≤ g) (hg : g < Bw) (ls : List Lf) (hls : ls.length ≤ 1000000) (path : List Tr) (t : Tr) (hq : path = [] → t.kind = 0) (hpn : path.length ≤ 1000000) (a : Option Addr) (c : Nat) (v : Value) (W : World) (hi : LvI g Bw ls W) (hp : PathR W B Bw v path) (hl : LiesN W (fun b => b < B) a t.sub) (hcap : t.sub.length ≤ c) (hbw : Bw ≤ W.heap.size) :
    Calls Tryz.prog 38 #[nodeV t a c, v, .pointer (some ⟨g, 0, none⟩)] W fun e w' => e = .returned (.bool (stL ls path t).1) ∧ ((stL ls path t).1 = true → LvI g Bw (stL ls path t).2 w') ∧ ((stL ls path t).1 = false → True) ∧ VFr B Bw W w' := by
 obtain ⟨iv, hvi, hv0, hv1, hv2⟩ := info_parts Tryz.infoL
 have hb0 : Below W.heap.size W (W.alloc (.cells #[.int .i64 t.id, .string t.nm, .int .i64 t.rep, .int .i64 t.kind, .slice a t.sub.length c] 24)) := (Below.refl _ _).alloc (Nat.le_refl _) _
 have HB0 : Hid _ := hb0
 have HI : Hid _ := hi
 by_cases hk : t.kind = 0
 · have HE : Hid (stL ls path t = (true, ls)) := (by show _ = _; rw [stL, if_pos hk])
   have qk : (!(t.kind == 0)) = false := by simp [hk]
   have HIL : Hid _ := isLeaf_any t a c (W.alloc (.cells #[.int .i64 t.id, .string t.nm, .int .i64 t.rep, .int .i64 t.kind, .slice a t.sub.length c] 24))
   have HQK : Hid _ := qk
   obtain ⟨va, vc, rfl⟩ := hp.shape
   clear hk hi hp hl hb0 qk hq
   go_enter Tryz.func38, Tryz.ntmps38
   go_wp2_with fail
   refine Calls.mono HIL.out ?_
   rw [HQK.out]
   rintro e w1 ⟨rfl, hb1⟩
   have HB1 : Hid (Below W.heap.size W w1) := HB0.out.trans (hb1.mono HB0.out.size)
   clear hb1
   go_wp2
   go_ret
   rw [HE.out]
   refine ⟨rfl, fun _ => ?_, fun h => by simp at h, VFr.of_below HB1.out (by omega)⟩
   obtain ⟨lv, h1, h2⟩ := HI.out
   exact ⟨lv, blk_keep HB1.out h1, h2.stay fun k cs e hk _ _ => HB1.out.block k (lt_of_block hk)⟩
 · have HE : Hid (stL ls path t = (true, ls ++ [lfO t path.tail])) := (by show _ = _; rw [stL, if_neg hk])
   have qk : (!(t.kind == 0)) = true := by simp [hk]
   have HIL : Hid _ := isLeaf_any t a c (W.alloc (.cells #[.int .i64 t.id, .string t.nm, .int .i64 t.rep, .int .i64 t.kind, .slice a t.sub.length c] 24))
   have HQK : Hid _ := qk
   cases path with
   | nil => exact absurd (hq rfl) hk
   | cons r rest =>
    obtain ⟨vb, vc, rfl, hvc, hpl⟩ := hp.rest
    have HPL : Hid (LiesN W (fun b => b < W.heap.size) (some ⟨vb, 5, none⟩) rest) := hpl
    have HL : Hid (LiesN W (fun b => b < B) a t.sub) := hl
    simp only [List.length_cons] at hpn
    clear hk hi hp hl hb0 qk hq hpl
    go_enter Tryz.func38, Tryz.ntmps38
    go_wp2_with fail
    refine Calls.mono HIL.out ?_
    rw [HQK.out]
    rintro e w1 ⟨rfl, hb1⟩
    have HB1 : Hid (Below W.heap.size W w1) := HB0.out.trans (hb1.mono HB0.out.size)
    have HX1 : Hid (w1.heap[W.heap.size]? = some (.cells #[.int .i64 t.id, .string t.nm, .int .i64 t.rep, .int .i64 t.kind, .slice a t.sub.length c] 24 (0, 0))) := blk_keep hb1 (heap_alloc_new W _)
    clear hb1 HIL
    obtain ⟨lv, hcell, pvs, hp1, hp2, hp3⟩ := HI.out
    have HR1 : Hid (w1.ownsRow Bw 72 5 lv ls.length ((List.zipWith lfC ls pvs).flatten)) := ow_kept hp2 HB1.out
    have HP1 : Hid (pvs.length = ls.length) := hp1
    have HP3 : Hid (∀ j (h : j < ls.length) (h' : j < pvs.length), w1.ownsRow Bw 3 1 pvs[j] ls[j].path.length (i64s ls[j].path)) := fun j h h' => ow_kept (hp3 j h h') HB1.out
    have HC1 : Hid (w1.heap[g]? = some (.cells #[lv] 64 (0, 0))) := blk_keep HB1.out hcell
    obtain ⟨l0, lf0⟩ := row_one HC1.out
    obtain ⟨⟨p0, p1, p2, p3, p4⟩, _⟩ := row_five HX1.out
    clear hp1 hp2 hp3 hcell
    have hw1 : W.heap.size < w1.heap.size := lt_of_block HX1.out
    have hone : (1 : Int) ≤ (rest.length : Int) + 1 := by omega
    obtain ⟨o1, hif, HPL1⟩ : ∃ o1 : Nat, (if vc = 1 then some (⟨vb, 0, none⟩ : Addr) else some ⟨vb, 5, none⟩) = some ⟨vb, o1, none⟩ ∧ Hid (LiesN W (fun b => b < W.heap.size) (some ⟨vb, o1, none⟩) rest) := by
     by_cases h1 : vc = 1
     · have h0 : rest = [] := List.eq_nil_of_length_eq_zero (by omega)
       subst h0
       exact ⟨0, if_pos h1, fun _ => [], fun j hj => absurd hj (by simp), fun j hj => absurd hj (by simp)⟩
     · exact ⟨5, if_neg h1, HPL.out⟩
    have HLf : Hid _ := leafOf_any t a c hcap rest vb o1 (vc - 1) (by omega) w1.drew (HL.out.stay (fun b h _ => by have := HB1.out.size; simp; omega) (fun b h _ => HB1.out.block b (by omega))) (HPL1.out.stay (fun b _ h => by have := HB1.out.size; simp; omega) (fun b _ h => HB1.out.block b h))
    have HPut : Hid (∀ (w2 w3 : World) (ob : Obj) (pv lv2 : Value), Below w1.heap.size w1 w2 → w2.ownsRow w1.heap.size 3 1 pv (rest.length + 1) (i64s ((rest ++ [t]).map Tr.id)) → w3.ownsRow Bw 72 5 lv2 (ls.length + 1) ((List.zipWith lfC ls pvs).flatten ++ [.int .i64 t.id, .int .i64 t.kind, .int .i64 (lvR (rest ++ [t]) : Nat), .int .i64 (lvD (rest ++ [t]) : Nat), pv]) → (w2.alloc ob).grownBy w3 lv.ownBlock → LvI g Bw (ls ++ [lfO t rest]) (w3.setCell ⟨g, 0, none⟩ lv2) ∧ VFr B Bw W (w3.setCell ⟨g, 0, none⟩ lv2) ∧ w3.cell? ⟨g, 0, none⟩ = some lv ∧ w3.frozen? ⟨g, 0, none⟩ = false) := fun w2 w3 ob pv lv2 hb2 hpr hown hgr => by
     have hs2 := hb2.size
     have hgl := lt_of_block HC1.out
     have hne : some g ≠ lv.ownBlock := own_type HR1.out HC1.out (by decide)
     have e3 : w3.heap[g]? = some (.cells #[lv] 64 (0, 0)) := by
      rw [hgr.block g (by simp; omega) hne, heap_alloc_old w2 ob (by omega), hb2.block g hgl]
      exact HC1.out
     have hR := LvR.push (f := lfO t rest) HP1.out HP3.out HR1.out (by have := HB1.out.size; omega) hb2 (by simpa [lfO] using hpr) (by simpa [lfC, lfO] using hown) hgr
     have hset : ∀ k, k ≠ g → (w3.setCell ⟨g, 0, none⟩ lv2).heap[k]? = w3.heap[k]? := fun k hk => Below.heap_setCell _ ⟨g, 0, none⟩ _ _ hk
     refine ⟨⟨lv2, row_setOne e3, hR.stay fun k cs e hk he hN => hset k (by omega)⟩, ?_, (row_one e3).1, (row_one e3).2⟩
     have hb3 : Below W.heap.size W w2 := HB1.out.trans (hb2.mono HB1.out.size)
     have hv3 : VFr B Bw W (w2.alloc ob) := (VFr.of_below hb3 (by omega)).alloc (by omega) ob
     refine VFr.setG (hv3.trans ⟨⟨hgr.os, hgr.tape, hgr.output, hgr.size, fun k hk => ?_⟩, fun k h1 h2 h3 => ?_⟩) hB hg lv2
     · exact hgr.block k (by have := HB1.out.size; simp; omega) (fun e => by have := (own_block HR1.out e.symm).1; omega)
     · obtain ⟨cs, z, hc⟩ := h3
       refine hgr.block k h2 fun e => ?_
       have hr2 : (w2.alloc ob).ownsRow Bw 72 5 lv ls.length ((List.zipWith lfC ls pvs).flatten) := (ow_kept HR1.out hb2).alloc ob
       exact own_type hr2 hc (by decide) e
    have hpl5 := lv_len ls pvs HP1.out
    go_wp2_with fail
    go_region_law (first
     | (refine step_own_where _ rfl _ _ 64 rfl Bw 72 iv (.agg #[.int .i64 0, .int .i64 0, .int .i64 0, .int .i64 0, .slice none 0 0]) 5 56 Tryz.underlying64 hvi hv0 hv1 hv2 rfl (by decide) _ ls.length (List.zipWith lfC ls pvs).flatten rfl ((ow_kept HR1.out hb2).alloc _) ⟨w2.heap.size, 0, none⟩ 1 1 [.int .i64 t.id, .int .i64 t.kind, .int .i64 (lvR (rest ++ [t]) : Nat), .int .i64 (lvD (rest ++ [t]) : Nat), .slice pa pn pc] rfl rfl five_cells (by intro u hu; simp at hu; rcases hu with rfl | rfl | rfl | rfl | rfl <;> rfl) (by unfold maxLen; omega) (by omega) (by have := hb2.size; have := HB1.out.size; simp; omega) (by decide) ?_; intro l' w3 hown3 hgrow3 hwh; obtain ⟨g3, cap3, rfl⟩ := own_shape hown3; obtain ⟨n1, n2, n3, n4⟩ := HPut.out _ _ _ _ _ hb2 HPr.out hown3 hgrow3; have HN1 : Hid _ := n1; have HN2 : Hid (VFr B Bw W (w3.setCell ⟨g, 0, none⟩ (.slice (some ⟨g3, 0, none⟩) (ls.length + 1) cap3))) := n2; clear n1 n2 hown3 hgrow3 hwh)
     | (go_simp; refine Calls.mono HLf.out ?_; rintro e w2 ⟨⟨pa, pn, pc, rfl, hpr⟩, hb2'⟩; have hb2 : Below w1.heap.size w1 w2 := (Below.refl _ _).drew.trans hb2'; have HPr : Hid (w2.ownsRow w1.heap.size 3 1 (.slice pa pn pc) (rest.length + 1) (i64s ((rest ++ [t]).map Tr.id))) := hpr; clear hpr hb2'; have l2 := (hb2.cell (World.block_lt_of_cell? w1 _ l0)).trans l0; have hs2 : g < w2.heap.size := (by have := hb2.size; have := HB1.out.size; omega); have l3 : ∀ ob : Obj, (w2.alloc ob).cell? ⟨g, 0, none⟩ = some lv := fun ob => (((Below.refl w2.heap.size w2).alloc (Nat.le_refl _) ob).cell hs2).trans l2))
    all_goals
     go_wp2
     go_ret
     rw [HE.out]
     exact ⟨rfl, fun _ => HN1.out, fun h => by simp at h, HN2.out⟩
mutual
theorem inB_cnt : ∀ (t : Tr) (m : Nat) (path : List Tr), (wkT stB m path t).1 = true → (wkT stB m path t).2 = m + t.cnt ∧ m + t.cnt ≤ 40 ∧ t.Dp (6 - path.length)
 | .node id nm rep kind sub, m, path => by
  rw [wkT, Tr.cnt]
  intro h
  by_cases hs : (stB m path (.node id nm rep kind sub)).1 = true
  · rw [if_pos hs] at h ⊢
    have h1 : m + 1 ≤ 40 ∧ path.length < 6 := by simpa [stB] using hs
    have h2 := inBL_cnt sub (stB m path (.node id nm rep kind sub)).2 (path ++ [.node id nm rep kind sub]) h
    have e : (stB m path (.node id nm rep kind sub)).2 = m + 1 := rfl
    rw [e] at h2 ⊢
    refine ⟨by omega, by omega, ?_⟩
    have hd : 6 - path.length = (6 - (path ++ [Tr.node id nm rep kind sub]).length) + 1 := by simp; omega
    rw [hd]
    exact .mk _ id nm rep kind sub h2.2.2
  · rw [if_neg hs] at h
    exact absurd h hs
theorem inBL_cnt : ∀ (ts : List Tr) (m : Nat) (path : List Tr), (wkL stB m path ts).1 = true → (wkL stB m path ts).2 = m + cntL ts ∧ (m ≤ 40 → m + cntL ts ≤ 40) ∧ ∀ j (h : j < ts.length), ts[j].Dp (6 - path.length)
 | [], m, path => by
  rw [wkL, cntL]
  exact fun _ => ⟨by simp, fun h => h, fun j h => absurd h (by simp)⟩
 | t :: ts, m, path => by
  rw [wkL, cntL]
  intro h
  by_cases hs : (wkT stB m path t).1 = true
  · rw [if_pos hs] at h ⊢
    have h1 := inB_cnt t m path hs
    have h2 := inBL_cnt ts _ path h
    rw [h1.1] at h2 ⊢
    refine ⟨by omega, fun _ => by have := h2.2.1 h1.2.1; omega, fun j hj => ?_⟩
    cases j with
    | zero => exact h1.2.2
    | succ j => exact h2.2.2 j (by simpa using hj)
  · rw [if_neg hs] at h
    exact absurd h hs
end
def lvsT (t : Tr) : List Lf := (wkT stL [] [] t).2
mutual
theorem stL_true : ∀ (t : Tr) (s : List Lf) (path : List Tr), (wkT stL s path t).1 = true
 | .node id nm rep kind sub, s, path => by
  rw [wkT, if_pos (show (stL s path (.node id nm rep kind sub)).1 = true from rfl)]
  exact stLL_true sub _ _
theorem stLL_true : ∀ (ts : List Tr) (s : List Lf) (path : List Tr), (wkL stL s path ts).1 = true
 | [], s, path => by rw [wkL]
 | t :: ts, s, path => by
  rw [wkL, if_pos (stL_true t s path)]
  exact stLL_true ts _ _
end
set_option maxRecDepth 100000 in
set_option maxHeartbeats 1600000 in
theorem leaves_right (t : Tr) (n : Nat) (hd : t.Dp n) (hn : n ≤ 1100000) (hs : t.Sm) (a : Option Addr) (c : Nat) (P : Nat → Prop) (W : World) (hl : LiesN W P a t.sub) (hcap : t.sub.length ≤ c) (eb es en : TypeId × Value)
    (hgb : W.cell? ⟨0, 0, none⟩ = some (.iface eb.1 eb.2)) (hgs : W.cell? ⟨1, 0, none⟩ = some (.iface es.1 es.2)) (hgn : W.cell? ⟨5, 0, none⟩ = some (.iface en.1 en.2)) (hr : vldN t = 0) :
    Calls Tryz.prog 24 #[nodeV t a c] W fun e w' => (∃ lv, e = .returned (.tuple #[lv, .nilIface]) ∧ LvR w' W.heap.size lv (lvsT t)) ∧ Below W.heap.size W w' := by
 have hv : vldV (.iface eb.1 eb.2) (.iface es.1 es.2) (.iface en.1 en.2) t = .nilIface := by
  unfold vldN at hr
  unfold vldV
  split at hr
  · omega
  · rename_i h1
    rw [if_neg h1]
    split at hr
    · omega
    · rename_i h2
      rw [if_neg h2]
      split at hr
      · omega
      · rename_i h3
        rw [if_neg h3]
 have hin : inB t = true := by
  unfold vldN at hr
  cases h : inB t with
  | true => rfl
  | false => rw [if_pos h] at hr; omega
 have hroot : t.kind = 0 := by
  unfold vldN at hr
  rw [if_neg (by rw [hin]; simp)] at hr
  cases h : isRootB t with
  | true => exact (of_decide_eq_true h).2.2.2
  | false => rw [if_pos (.inl h)] at hr; omega
 have hcnt := inB_cnt t 0 [] hin
 have hb : Below W.heap.size W (W.alloc (.cells #[.int .i64 t.id, .string t.nm, .int .i64 t.rep, .int .i64 t.kind, .slice a t.sub.length c] 24)) := (Below.refl _ _).alloc (Nat.le_refl _) _
 have HX : Hid ((W.alloc (.cells #[.int .i64 t.id, .string t.nm, .int .i64 t.rep, .int .i64 t.kind, .slice a t.sub.length c] 24)).heap[W.heap.size]? = some (.cells #[.int .i64 t.id, .string t.nm, .int .i64 t.rep, .int .i64 t.kind, .slice a t.sub.length c] 24 (0, 0))) := heap_alloc_new W _
 have HV := valid_any t n hd hn hs a c P _ (hl.keep hb) hcap eb es en ((hb.cell (World.block_lt_of_cell? W _ hgb)).trans hgb) ((hb.cell (World.block_lt_of_cell? W _ hgs)).trans hgs) ((hb.cell (World.block_lt_of_cell? W _ hgn)).trans hgn)
 rw [hv] at HV
 have HV : Hid _ := HV
 have HB : Hid _ := hb
 have HL : Hid (LiesN W P a t.sub) := hl
 have HD : Hid (t.Dp 6) := hcnt.2.2
 have HSm : Hid t.Sm := hs
 have HK : Hid (t.kind = 0) := hroot
 have HCn : Hid (t.cnt ≤ 40) := (by show _ ≤ _; omega)
 clear hl hd hs hb hgb hgs hgn hr hv hin hroot hcnt
 go_enter Tryz.func24, Tryz.ntmps24
 go_wp2_with fail
 refine Calls.mono HV.out ?_
 rintro e w1 ⟨rfl, hb1⟩
 have HB1 : Hid (Below W.heap.size W w1) := HB.out.trans (hb1.mono HB.out.size)
 have HX1 : Hid (w1.heap[W.heap.size]? = some (.cells #[.int .i64 t.id, .string t.nm, .int .i64 t.rep, .int .i64 t.kind, .slice a t.sub.length c] 24 (0, 0))) := blk_keep hb1 HX.out
 clear hb1 HV
 obtain ⟨⟨p0, p1, p2, p3, p4⟩, _⟩ := row_five (blk_alloc (o' := .cells #[.slice none 0 0] 64) HX1.out)
 have hb2 : Below w1.heap.size w1 (w1.alloc (.cells #[.slice none 0 0] 64)) := (Below.refl _ _).alloc (Nat.le_refl _) _
 have HB2 : Hid _ := hb2
 have hsz := HB1.out.size
 have HC : Hid _ := wkL_any stL (LvI w1.heap.size (w1.heap.size + 1)) (fun _ _ => True) (fun path t => (path = [] → t.kind = 0) ∧ ∃ m, t.Dp m ∧ path.length + m ≤ 1000) (fun s => s.length) 40 w1.heap.size w1.heap.size (w1.heap.size + 1) (by omega)
  (fun s W' w' r hi hg hr => by
   obtain ⟨lv, h1, h2⟩ := hi
   refine ⟨lv, (hg.block _ (lt_of_block h1) (fun e => by have := (hr _ e.symm).1; omega)).trans h1, h2.stay fun k cs e hk he hN => hg.block k (lt_of_block hk) fun e2 => ?_⟩
   obtain ⟨_, cs', z, h3⟩ := hr k e2.symm
   rw [h3] at hk
   injection hk with hk
   injection hk with _ hk _
   rcases he with rfl | rfl <;> exact absurd hk (by decide))
  (fun path t hq j hj => ⟨fun h => by simp at h, by
   obtain ⟨m, h1, h2⟩ := hq.2
   have h3 := h1.pos
   obtain ⟨m', rfl⟩ : ∃ m', m = m' + 1 := ⟨m - 1, by omega⟩
   exact ⟨m', h1.at_ j hj, by simp; omega⟩⟩) (fun s path t => by simp only [stL]; split <;> simp)
  (fun s path t a c v W' hq hm h1 h2 h3 hcap h4 h5 => leaves1_any w1.heap.size w1.heap.size (w1.heap.size + 1) (Nat.le_refl _) (by omega) s (by omega) path t hq.1 (by obtain ⟨m, _, h⟩ := hq.2; omega) a c v W' h1 h2 h3 hcap h5)
  6 t HD.out HSm.out [] [] a c (.slice none 0 0) (w1.alloc (.cells #[.slice none 0 0] 64)) ⟨fun _ => HK.out, 6, HD.out, by simp⟩ (by simpa using HCn.out) (by simp)
  ⟨_, heap_alloc_new w1 _, [], rfl, World.ownsRow_nil _ _ _ _, fun j hj => absurd hj (by simp)⟩ (PathR.nil _ _ _) ((HL.out.keep HB1.out).stay (fun b _ h => h) (fun b _ h => hb2.block b h)) hcap (by simp)
 clear hb2
 go_wp2_with fail
 refine Calls.mono HC.out ?_
 rintro e w2 ⟨rfl, hi2, _, hf2, _⟩
 obtain ⟨lv, hc2, hlv⟩ := hi2 (stL_true t [] [])
 have HB3 : Hid (Below W.heap.size W w2) := (HB1.out.trans (HB2.out.mono hsz)).trans (hf2.below.mono hsz)
 have HLv : Hid (LvR w2 (w1.heap.size + 1) lv (lvsT t)) := hlv
 obtain ⟨q0, _⟩ := row_one hc2
 clear hi2 hf2 hlv hc2 HC p0 p1 p2 p3 p4
 go_wp2
 go_ret2
 exact ⟨⟨lv, rfl, HLv.out.down (by omega)⟩, HB3.out⟩
mutual
theorem wkLv : ∀ (t : Tr) (ls : List Lf) (r : Tr) (p : List Tr), (wkT stL ls (r :: p) t).2 = ls ++ lvT p t
 | .node id nm rep kind sub, ls, r, p => by
  rw [wkT, if_pos (show (stL ls (r :: p) (.node id nm rep kind sub)).1 = true from rfl), lvT]
  have e : (stL ls (r :: p) (.node id nm rep kind sub)).2 = if kind = 0 then ls else ls ++ [lfO (.node id nm rep kind sub) p] := rfl
  have ih := wkLLv sub (if kind = 0 then ls else ls ++ [lfO (Tr.node id nm rep kind sub) p]) r (p ++ [Tr.node id nm rep kind sub])
  rw [e, List.cons_append, ih]
  by_cases h : kind = 0
  · rw [if_pos h, if_pos h, List.nil_append]
  · rw [if_neg h, if_neg h, List.append_assoc]
theorem wkLLv : ∀ (ts : List Tr) (ls : List Lf) (r : Tr) (p : List Tr), (wkL stL ls (r :: p) ts).2 = ls ++ lvL p ts
 | [], ls, r, p => by rw [wkL, lvL, List.append_nil]
 | t :: ts, ls, r, p => by
  rw [wkL, if_pos (stL_true t ls (r :: p)), wkLLv ts _ r p, wkLv t ls r p, lvL, List.append_assoc]
end
theorem lvs_right (t : Tr) (h : t.kind = 0) : lvsT t = lvL [] t.sub := by
 unfold lvsT
 rw [wkT_eq]
 have e : stL [] [] t = (true, []) := by simp [stL, h]
 rw [e, if_pos rfl]
 have := wkLLv t.sub [] t []
 simpa using this
set_option maxRecDepth 100000 in
set_option maxHeartbeats 3200000 in
theorem leaves_err (t : Tr) (n : Nat) (hd : t.Dp n) (hn : n ≤ 1100000) (hs : t.Sm) (a : Option Addr) (c : Nat) (P : Nat → Prop) (W : World) (hl : LiesN W P a t.sub) (hcap : t.sub.length ≤ c) (eb es en : TypeId × Value) (he : Er3 W eb es en) (ty : TypeId) (v : Value) (hx : vldV (.iface eb.1 eb.2) (.iface es.1 es.2) (.iface en.1 en.2) t = .iface ty v) :
    Calls Tryz.prog 24 #[nodeV t a c] W fun e w' => e = .returned (.tuple #[.slice none 0 0, .iface ty v]) ∧ Below W.heap.size W w' := by
 obtain ⟨w0, HW0, HX, HB⟩ := one_box W #[.int .i64 t.id, .string t.nm, .int .i64 t.rep, .int .i64 t.kind, .slice a t.sub.length c] 24
 have HV := valid_any t n hd hn hs a c P w0 (hl.keep HB.out) hcap eb es en (he.keep HB.out).b (he.keep HB.out).s (he.keep HB.out).n
 rw [hx] at HV
 have HV : Hid _ := HV
 obtain ⟨⟨p0, p1, p2, p3, p4⟩, _⟩ := row_five HX.out
 clear hl hd hs he hx
 unfold nodeV
 go_enter Tryz.func24, Tryz.ntmps24
 go_wp2_with fail
 rw [HW0.out]
 refine Calls.mono HV.out ?_
 rintro e w1 ⟨rfl, hb1⟩
 have HB1 : Hid (Below W.heap.size W w1) := HB.out.trans (hb1.mono HB.out.size)
 clear hb1 p0 p1 p2 p3 p4
 go_wp2
 go_ret2
 exact ⟨rfl, HB1.out⟩
def btw (a n b : Int) : Bool := decide (a ≤ n ∧ n ≤ b)
set_option maxRecDepth 100000 in
set_option maxHeartbeats 1600000 in
theorem between_any (a n b : Int) (W : World) : Calls Tryz.prog 127 #[.int .i64 a, .int .i64 n, .int .i64 b] W fun e w' => e = .returned (.bool (btw a n b)) ∧ w' = W := by
 by_cases h1 : a ≤ n
 all_goals
  by_cases h2 : n ≤ b
  all_goals
   have HE : Hid (btw a n b = decide (a ≤ n ∧ n ≤ b)) := rfl
   go_enter Tryz.func127, Tryz.ntmps127
   go_wp2
   all_goals go_ret
   all_goals (rw [HE.out]; simp [h1, h2])
abbrev leafV (id kind mr md : Int) (pa : Option Addr) (pn pc : Nat) : Value := .agg #[.int .i64 id, .int .i64 kind, .int .i64 mr, .int .i64 md, .slice pa pn pc]
def isLfB (kind mr md : Int) : Bool := btw 1 kind 5 && btw 0 mr 40 && btw 0 md 40
set_option maxRecDepth 100000 in
set_option maxHeartbeats 1600000 in
theorem sIsLeaf_any (id kind mr md : Int) (pa : Option Addr) (pn pc : Nat) (W : World) : Calls Tryz.prog 108 #[leafV id kind mr md pa pn pc] W fun e w' => e = .returned (.bool (isLfB kind mr md)) ∧ Below W.heap.size W w' := by
 have HB : Hid (Below W.heap.size W (W.alloc (.cells #[.int .i64 id, .int .i64 kind, .int .i64 mr, .int .i64 md, .slice pa pn pc] 72))) := (Below.refl _ _).alloc (Nat.le_refl _) _
 obtain ⟨b1, H1⟩ : ∃ b1, Hid (btw 1 kind 5 = b1) := ⟨_, rfl⟩
 obtain ⟨b2, H2⟩ : ∃ b2, Hid (btw 0 mr 40 = b2) := ⟨_, rfl⟩
 obtain ⟨b3, H3⟩ : ∃ b3, Hid (btw 0 md 40 = b3) := ⟨_, rfl⟩
 have HE : Hid (isLfB kind mr md = (b1 && b2 && b3)) := (by show _ = _; rw [isLfB, H1.out, H2.out, H3.out])
 unfold leafV
 go_enter Tryz.func108, Tryz.ntmps108
 go_wp2_with fail
 refine (between_any 1 kind 5 _).mono ?_
 rw [H1.out]
 rintro e w1 ⟨rfl, rfl⟩
 cases b1 with
 | false =>
  go_wp2
  go_ret
  exact ⟨by rw [HE.out]; rfl, HB.out⟩
 | true =>
  go_wp2_with fail
  refine (between_any 0 mr 40 _).mono ?_
  rw [H2.out]
  rintro e w1 ⟨rfl, rfl⟩
  cases b2 with
  | false =>
   go_wp2
   go_ret
   exact ⟨by rw [HE.out]; rfl, HB.out⟩
  | true =>
   go_wp2_with fail
   refine (between_any 0 md 40 _).mono ?_
   rw [H3.out]
   rintro e w1 ⟨rfl, rfl⟩
   go_wp2
   go_ret
   exact ⟨by rw [HE.out]; simp, HB.out⟩
set_option maxRecDepth 100000 in
set_option maxHeartbeats 1600000 in
theorem outside_any (most : Int) (W : World) : Calls Tryz.prog 128 #[.int .i64 most] W fun e w' => e = .returned (.func (.func 129) #[] #[.pointer (some ⟨W.heap.size, 0, none⟩)]) ∧ w' = W.alloc (.cells #[.int .i64 most] 3) := by
 have hmf : ∀ (fn : Fn) (first cap : Array Value) (W : World), (Instr.makeFunc fn first cap).run Tryz.prog W = .ok (.func fn first cap) W := fun _ _ _ _ => rfl
 go_enter Tryz.func128, Tryz.ntmps128
 go_wp2
 go_ret
 exact ⟨rfl, rfl⟩
set_option maxRecDepth 100000 in
set_option maxHeartbeats 1600000 in
theorem out1_any (lv most : Int) (g : Nat) (W : World) (hg : W.heap[g]? = some (.cells #[.int .i64 most] 3 (0, 0))) : Calls Tryz.prog 129 #[.int .i64 lv, .pointer (some ⟨g, 0, none⟩)] W fun e w' => e = .returned (.bool (!(btw 0 lv most))) ∧ w' = W := by
 obtain ⟨c0, _⟩ := row_one hg
 clear hg
 go_enter Tryz.func129, Tryz.ntmps129
 go_wp2_with fail
 refine (between_any 0 lv most _).mono ?_
 rintro e w1 ⟨rfl, rfl⟩
 go_wp2
 go_ret
 exact ⟨rfl, rfl⟩
set_option maxRecDepth 100000 in
set_option maxHeartbeats 1600000 in
theorem idxO_any (most : Int) (g : Nat) (a : Option Addr) (c : Nat) (xs : List Int) (hn : xs.length ≤ 1048576) (W : World) (hg : W.heap[g]? = some (.cells #[.int .i64 most] 3 (0, 0))) (hl : Lies W a (i64s xs)) :
    Calls Tryz.prog (114) #[.slice a xs.length c, .func (.func 129) #[] #[.pointer (some ⟨g, 0, none⟩)]] W fun e w' => (∃ r, e = .returned (.int .i64 r) ∧ Idx (fun x => !(btw 0 x most)) xs r) ∧ w' = W := by
 have HL : Hid (Lies W a (i64s xs)) := hl
 have HG : Hid (W.heap[g]? = some (.cells #[.int .i64 most] 3 (0, 0))) := hg
 clear hl hg
 go_enter Tryz.func114, Tryz.ntmps114
 go_wp2
 go_loop [8] (fun x => ∃ i : Nat, i ≤ xs.length ∧ x = .int .i64 i ∧ Hid (∀ j (h : j < xs.length), j < i → (!(btw 0 xs[j] most)) = false)) (fun x => xs.length - (intOf x).toNat)
 case atStart => exact ⟨0, Nat.zero_le _, rfl, fun j _ h => absurd h (Nat.not_lt_zero _)⟩
 case round =>
  obtain ⟨i, hi, rfl, HA⟩ := hrel
  by_cases hlt : i < xs.length
  · obtain ⟨b, o, rfl, hc⟩ := HL.out i (by simpa [i64s] using hlt)
    have hc' : W.cell? ⟨b, o + i, none⟩ = some (.int .i64 xs[i]) := by rw [hc]; simp [i64s]
    clear hc
    go_wp2_with fail
    refine (out1_any xs[i] most g W HG.out).mono ?_
    rintro e w1 ⟨rfl, rfl⟩
    cases hq : (!(btw 0 xs[i] most)) with
    | true =>
     have HQ : Hid _ := hq
     clear hq
     go_wp2
     go_ret
     exact ⟨⟨(i : Int), rfl, .inr ⟨i, hlt, rfl, HQ.out, fun j h => HA.out j (by omega) h⟩⟩, rfl⟩
    | false =>
     have HN : Hid (∀ j (h : j < xs.length), j < i + 1 → (!(btw 0 xs[j] most)) = false) := fun j h hj => by
      by_cases e : j = i
      · subst e; exact hq
      · exact HA.out j h (by omega)
     clear hq
     go_wp2
     go_round
     case rel => exact ⟨i + 1, by omega, by go_num, HN⟩
     case measure => simp [intOf]; omega
  · obtain rfl : i = xs.length := by omega
    go_wp2
    go_ret
    exact ⟨⟨-1, rfl, .inl ⟨rfl, fun j h => HA.out j h h⟩⟩, rfl⟩
set_option maxRecDepth 100000 in
set_option maxHeartbeats 1600000 in
theorem containsO_any (most : Int) (g : Nat) (a : Option Addr) (c : Nat) (xs : List Int) (hn : xs.length ≤ 1048576) (W : World) (hg : W.heap[g]? = some (.cells #[.int .i64 most] 3 (0, 0))) (hl : Lies W a (i64s xs)) :
    Calls Tryz.prog (130) #[.slice a xs.length c, .func (.func 129) #[] #[.pointer (some ⟨g, 0, none⟩)]] W fun e w' => e = .returned (.bool (xs.any fun x => !(btw 0 x most))) ∧ w' = W := by
 have HC : Hid _ := idxO_any most g a c xs hn W hg hl
 clear hg hl
 go_enter Tryz.func130, Tryz.ntmps130
 go_wp2_with fail
 refine Calls.mono HC.out ?_
 rintro e w1 ⟨⟨r, rfl, hr⟩, rfl⟩
 have HR : Hid _ := hr.any
 clear hr
 go_wp2
 go_ret
 exact ⟨by rw [← HR.out]; rfl, rfl⟩
end Go.Proofs.YteonbmaokphleaaGreatDoor
