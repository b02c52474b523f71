/-
  assemble: one datum of a leaf.
  The reference's CutOf: what its loops hold.
  assemble: one datum of a group.
  assemble: a list.
  assemble: a datum.
  assemble: whatever right datum is put together.
  assemble: the root's records.
-/
import Derived.Test.YteonbmaokphleaaGreatDoorHBAsD
import Derived.Deep.DeepCutAuto
import Derived.Test.YteonbmaokphleaaGreatDoorHBColS
import Derived.Test.YteonbmaokphleaaGreatDoorHBOwnDt
namespace Go.Proofs.YteonbmaokphleaaGreatDoor
open Go.RowKit
theorem liesD_no (W : World) (P : Nat → Prop) (a : Option Addr) : LiesD W P a [] := ⟨fun _ => [], fun _ h => absurd h (Nat.not_lt_zero _), fun _ h => absurd h (Nat.not_lt_zero _)⟩
set_option maxRecDepth 100000 in
set_option maxHeartbeats 3200000 in
theorem aone_leaf (t : Tr) (df ls : Nat) (v : Vl) (hk : t.kind ≠ 0) : OneA t df ls (.mk false v [] []) := by
 intro N b G rep rest W hb hnd hG hrl hR hh
 rw [en_eq, if_neg (by simp), if_neg (by simp), if_neg hk] at hR
 cases hb with
 | group _ _ _ _ _ _ _ _ _ _ _ hk' => exact absurd hk' hk
 | leaf _ _ _ _ g ra rc hk' cell hr =>
  obtain ⟨x, r, HRx, HXr⟩ : ∃ (x : Ent) (r : List Ent), Hid (rest = [r]) ∧ Hid (x.v = some v ∧ RdL W N g (x :: r)) := by
   match rest, hrl with
   | [r], _ =>
    have h := hR.2 0 (by simp) (by rw [← hR.1]; simp)
    exact ⟨_, r, rfl, rfl, h⟩
  obtain ⟨w0, HW0, HX, HB⟩ := one_box W #[.bool false, .int .i64 0, .int .i64 0, .string ⟨#[]⟩, .slice none 0 0, .slice none 0 0] 56
  have hgl := HXr.out.2.hi
  have HT : Hid _ := atake_any N g x v r HXr.out.1 w0 (HXr.out.2.below HB.out)
  obtain ⟨c0, c1, c2, c3, c4⟩ := row_fiveB (blk_keep HB.out cell)
  obtain ⟨bb, oo, ea, hc⟩ := (hr.keep HB.out) 0 (by simp [ptrs])
  rw [ptrs_at [g] 0 _ (by simp), List.getElem_cons_zero, Nat.add_zero] at hc
  subst ea
  have HGz : Hid (W.heap.size ∉ [g]) := (by show _ ∉ _; rw [List.mem_singleton]; omega)
  have HNW : Hid (N ≤ W.heap.size) := (by show _ ≤ _; omega)
  clear hnd hG hrl hR hh cell hr hgl
  go_enter Tryz.func54, Tryz.ntmps54
  go_upto_region 1 with fail
  rw [HW0.out]
  go_wp2_with fail
  refine Calls.mono HT.out ?_
  rintro e w1 ⟨rfl, hr1, hf1⟩
  have HR1 : Hid (RdAll w1 N [g] rest) := (by
   show RdAll _ _ _ _
   rw [HRx.out]
   refine ⟨rfl, fun j h1 h2 => ?_⟩
   have : j = 0 := by simp at h1; omega
   subst this
   exact hr1)
  have HF1 : Hid (AFr [g] W w1) := (AFr.of_below HB.out).trans hf1
  have HX1 : Hid _ := hf1.box HX.out HGz.out
  obtain ⟨z0, z1, z2, z3, z4, z5⟩ := row_six HX1.out
  obtain ⟨y0, y1, y2, y3, y4, y5⟩ := row_six_z HX1.out
  clear hr1 hf1
  go_wp2
  refine bodyPost_ret (v := .tuple #[.agg #[.bool false, .int .i64 v.k, .int .i64 v.n, .string v.s, .slice none 0 0, .slice none 0 0], .nilIface]) (results_cS Tryz.results54 _ _ W.heap.size 56 #[.bool false, .int .i64 v.k, .int .i64 v.n, .string v.s, .slice none 0 0, .slice none 0 0] (0, 0) _ .nilIface rfl rfl (row_setC (row_setC (row_setC (row_setC (row_setC (row_setC HX1.out)))))) Tryz.underlying56 rfl (by kernel_rfl)) rfl ⟨none, 0, none, 0, rfl, liesD_no _ _ _, liesD_no _ _ _, HR1.out.six HGz.out HNW.out _ _ _ _ _ _, sixA HF1.out (Nat.le_refl _) _ _ _ _ _ _⟩
def outC (s : Bool) (l : Value) : Array Value := if s = true then #[.bool false, .int .i64 0, .int .i64 0, .string ⟨#[]⟩, l, .slice none 0 0] else #[.bool false, .int .i64 0, .int .i64 0, .string ⟨#[]⟩, .slice none 0 0, l]
def outS (s : Bool) : Nat := if s = true then 4 else 5
structure CuK (s : Bool) (g : Nat) (w0 : World) (fs : List Dt) (wr : World) (l : Value) (ncs : List (List Value)) : Prop where
 out : wr.heap[g]? = some (.cells (outC s l) 56 (0, 0))
 len : ncs.length = fs.length
 six : ∀ x ∈ ncs, x.length = 6
 row : wr.ownsRow (g + 1) 56 6 l fs.length ncs.flatten
 each : ∀ j (h : j < ncs.length) (h' : j < fs.length), DtC wr (fun b => g + 1 ≤ b ∧ l.ownBlock ≠ some b) fs[j] ncs[j]
 old : Below g w0 wr
 big : g + 1 ≤ wr.heap.size
theorem CuK.shape {s : Bool} {g : Nat} {w0 : World} {fs : List Dt} {wr : World} {l : Value} {ncs : List (List Value)} (h : CuK s g w0 fs wr l ncs) : ∃ a' c', l = .slice a' fs.length c' := by
 rcases h.row.2 with ⟨h0, h1⟩ | ⟨_, cap, cur, h0, _, _, hnc, _⟩
 · exact ⟨none, 0, by rw [h0, h1]⟩
 · exact ⟨_, cap, h0⟩
theorem CuK.lies {s : Bool} {g : Nat} {w0 : World} {fs : List Dt} {wr : World} {a' : Option Addr} {c' : Nat} {ncs : List (List Value)} (h : CuK s g w0 fs wr (.slice a' fs.length c') ncs) : LiesD wr (fun b => g + 1 ≤ b) a' fs := by
 refine ⟨fun j => ncs.getD j [], fun j hj => ?_, fun j hj => ?_⟩
 · have hjn : j < ncs.length := by rw [h.len]; exact hj
   have e : ncs.getD j [] = ncs[j] := by simp [List.getD, hjn]
   show DtAt wr _ a' j (ncs.getD j [])
   rw [e]
   have h6 := h.six ncs[j] (List.getElem_mem hjn)
   rcases h.row.2 with ⟨_, h0⟩ | ⟨g', cap, cur, hv, hbg, _⟩
   · exact absurd hj (by omega)
   · have hv' := hv
     injection hv' with ha _ _
     subst ha
     have hc : ∀ k u, ncs[j][k]? = some u → k < 6 → wr.cell? ⟨g', j * 6 + k, none⟩ = some u := fun k u hu hk => by
      have h1 := h.row.cells (g := g') rfl (j * 6 + k) u (by rw [flat6 ncs h.six j k hk, List.getElem?_eq_getElem hjn]; exact hu)
      rw [addr_plus, Nat.zero_add] at h1
      exact h1
     generalize ncs[j] = cs at *
     match cs, h6 with
     | [x0, x1, x2, x3, x4, x5], _ =>
      have c0 := hc 0 x0 rfl (by omega)
      have c1 := hc 1 x1 rfl (by omega)
      have c2 := hc 2 x2 rfl (by omega)
      have c3 := hc 3 x3 rfl (by omega)
      have c4 := hc 4 x4 rfl (by omega)
      have c5 := hc 5 x5 rfl (by omega)
      exact ⟨g', 0, x0, x1, x2, x3, x4, x5, rfl, by omega, rfl, by simpa using c0, by simpa using c1, by simpa using c2, by simpa using c3, by simpa using c4, by simpa using c5⟩
 · have hjn : j < ncs.length := by rw [h.len]; exact hj
   have e : ncs.getD j [] = ncs[j] := by simp [List.getD, hjn]
   show DtC wr _ fs[j] (ncs.getD j [])
   rw [e]
   exact (h.each j hjn hj).stay (fun b hP _ => hP.1) (fun _ _ _ => rfl)
theorem CuK.keep {s : Bool} {g : Nat} {w0 : World} {fs : List Dt} {wr w1 : World} {l : Value} {ncs : List (List Value)} (h : CuK s g w0 fs wr l ncs) (hb : Below wr.heap.size wr w1) : CuK s g w0 fs w1 l ncs :=
 ⟨blk_keep hb h.out, h.len, h.six, ow_kept h.row hb, fun j hj hj' => (h.each j hj hj').stay (fun _ h _ => h) (fun b _ hl => hb.block b hl), h.old.trans (hb.mono (Nat.le_trans (Nat.le_succ g) h.big)), Nat.le_trans h.big hb.size⟩
theorem CuK.apart {s : Bool} {g : Nat} {w0 : World} {fs : List Dt} {wr : World} {l : Value} {ncs : List (List Value)} (h : CuK s g w0 fs wr l ncs) {k : Nat} (hk : k < g + 1) : some k ≠ l.ownBlock := by
 rcases h.row.2 with ⟨rfl, _⟩ | ⟨g', cap, cur, rfl, hg, _⟩
 · simp [Value.ownBlock]
 · simp [Value.ownBlock]; omega
theorem CuK.three {s : Bool} {g : Nat} {w0 : World} {fs : List Dt} {wr w1 w2 : World} {l : Value} {ncs : List (List Value)} (h : CuK s g w0 fs wr l ncs) (hb : Below wr.heap.size wr w1) {ob : Obj} (hg : (w1.alloc ob).grownBy w2 l.ownBlock) {k : Nat} (hk : k < g + 1) : w2.heap[k]? = wr.heap[k]? := by
 have h1 : k < wr.heap.size := Nat.lt_of_lt_of_le hk h.big
 have h2 : k < w1.heap.size := Nat.lt_of_lt_of_le h1 hb.size
 rw [hg.block k (by simp; omega) (h.apart hk), heap_alloc_old w1 ob h2, hb.block k h1]
theorem CuK.push {s : Bool} {g : Nat} {w0 : World} {fs : List Dt} {wr w1 w2 : World} {x : Dt} {l l' : Value} {ncs : List (List Value)} {al af : Option Addr} {cl cf : Nat} (h : CuK s g w0 fs wr l ncs) (hb : Below wr.heap.size wr w1) (hl : LiesD w1 (fun b => wr.heap.size ≤ b) al x.l) (hf : LiesD w1 (fun b => wr.heap.size ≤ b) af x.f) {ob : Obj}
    (hown : w2.ownsRow (g + 1) 56 6 l' (fs.length + 1) (ncs.flatten ++ [.bool x.no, .int .i64 x.v.k, .int .i64 x.v.n, .string x.v.s, .slice al x.l.length cl, .slice af x.f.length cf])) (hg : (w1.alloc ob).grownBy w2 l.ownBlock) (hw : l'.ownBlock = l.ownBlock ∧ l.ownBlock ≠ none ∨ l'.ownBlock = some (w1.alloc ob).heap.size) :
    CuK s g w0 (fs ++ [x]) (w2.setCell ⟨g, outS s, none⟩ l') l' (ncs ++ [[.bool x.no, .int .i64 x.v.k, .int .i64 x.v.n, .string x.v.s, .slice al x.l.length cl, .slice af x.f.length cf]]) := by
 have hbig := h.big
 have hbs := hb.size
 have hgs := hg.size
 simp only [World.size_alloc] at hgs
 have hlb : ∀ k, l.ownBlock = some k → k < wr.heap.size := fun k hk => (h.row.lt k hk).2
 have hset : ∀ k, k ≠ g → (w2.setCell ⟨g, outS s, none⟩ l').heap[k]? = w2.heap[k]? := fun k hk => Below.heap_setCell _ _ _ _ hk
 have b0 : Below g w0 w1 := h.old.trans (hb.mono (by omega))
 have b1 : Below g w0 w2 := (b0.alloc (by omega) ob).grown hg (by simp; omega) (fun k hk => by have := (h.row.lt k hk).1; omega)
 refine ⟨?_, by rw [List.length_append, List.length_append, h.len]; rfl, fun y hy => ?_, ?_, fun j hj hj' => ?_, ?_, ?_⟩
 · rw [row_setCell ((h.three hb hg (by omega)).trans h.out)]
   cases s <;> rfl
 · rcases List.mem_append.1 hy with hy | hy
   · exact h.six y hy
   · rw [List.mem_singleton.1 hy]; rfl
 · rw [List.flatten_append, List.length_append]
   have hown2 : w2.ownsRow (g + 1) 56 6 l' (fs.length + 1) (ncs.flatten ++ [[.bool x.no, .int .i64 x.v.k, .int .i64 x.v.n, .string x.v.s, .slice al x.l.length cl, .slice af x.f.length cf]].flatten) := by simpa using hown
   refine ⟨hown2.1, ?_⟩
   rcases hown2.2 with hn0 | ⟨g', cap, cur, h1, hbg, hgg, rest⟩
   · exact .inl hn0
   · exact .inr ⟨g', cap, cur, h1, hbg, (hset g' (by omega)).trans hgg, rest⟩
 · by_cases hjl : j < ncs.length
   · rw [List.getElem_append_left hjl, List.getElem_append_left (by rw [← h.len]; exact hjl)]
     refine (h.each j hjl (by rw [← h.len]; exact hjl)).stay (fun b hP hlt => ⟨hP.1, ?_⟩) (fun b hP hlt => ?_)
     · rw [hset b (by omega), hg.block b (by simp; omega) (fun e => hP.2 e.symm), heap_alloc_old w1 ob (show b < w1.heap.size by omega), hb.block b hlt]
     · rcases hw with ⟨e, _⟩ | e
       · rw [e]; exact hP.2
       · rw [e]; simp; omega
   · have hje : j = ncs.length := by rw [List.length_append] at hj; simp at hj; omega
     have hju : j = fs.length := by rw [hje, h.len]
     have ee : (ncs ++ [[.bool x.no, .int .i64 x.v.k, .int .i64 x.v.n, .string x.v.s, .slice al x.l.length cl, .slice af x.f.length cf]])[j] = [.bool x.no, .int .i64 x.v.k, .int .i64 x.v.n, .string x.v.s, .slice al x.l.length cl, .slice af x.f.length cf] := by
      rw [List.getElem_append_right (by omega)]
      simp
     have eu : (fs ++ [x])[j] = x := by
      rw [List.getElem_append_right (by omega)]
      simp
     rw [ee, eu]
     have hQ : ∀ b, wr.heap.size ≤ b → b < w1.heap.size → (g + 1 ≤ b ∧ l'.ownBlock ≠ some b) := fun b hP hlt => by
      refine ⟨by omega, ?_⟩
      rcases hw with ⟨e, hne⟩ | e
      · rw [e]
        intro e2
        have := hlb b e2
        omega
      · rw [e]; simp; omega
     have hS : ∀ b, wr.heap.size ≤ b → b < w1.heap.size → (w2.setCell ⟨g, outS s, none⟩ l').heap[b]? = w1.heap[b]? := fun b hP hlt => by
      rw [hset b (by omega), hg.block b (by simp; omega) (fun e => by have := hlb b e.symm; omega), heap_alloc_old w1 ob hlt]
     exact DtC.join cl cf (hl.stay hQ hS) (hf.stay hQ hS)
 · exact ⟨b1.os, b1.tape, b1.output, by simp only [World.size_setCell]; exact b1.size, fun k hk => (hset k (by omega)).trans (b1.block k hk)⟩
 · simp only [World.size_setCell]; omega
def CfP (p t : Tr) (one : Bool) (d : Dt) : Prop := ∀ (P Q R : Nat → Prop) (ta : Option Addr) (tc : Nat) (pa : Option Addr) (pc : Nat) (al : Option Addr) (cl : Nat) (af : Option Addr) (cf : Nat) (W : World), LiesN W P ta t.sub → LiesN W Q pa p.sub → LiesD W R al d.l → LiesD W R af d.f →
 Calls Tryz.prog 21 #[nodeV t ta tc, nodeV p pa pc, datumV d al cl af cf, .bool one] W fun e w' => (∃ al' cl' af' cf', e = .returned (datumV (if one = true then cut1 p t d else cutT p t d) al' cl' af' cf') ∧ LiesD w' (fun b => W.heap.size ≤ b) al' (if one = true then cut1 p t d else cutT p t d).l ∧ LiesD w' (fun b => W.heap.size ≤ b) af' (if one = true then cut1 p t d else cutT p t d).f) ∧ Below W.heap.size W w'
theorem fl_sub (FG : Nat → List Nat) {n j : Nat} (h : j < n) : ∀ g ∈ FG j, g ∈ (List.range n).flatMap FG := fun _ hg => List.mem_flatMap.2 ⟨j, List.mem_range.2 h, hg⟩
theorem fl_one {FG : Nat → List Nat} {n j : Nat} (h : j < n) (hnd : ((List.range n).flatMap FG).Nodup) : (FG j).Nodup ∧ (FG j).length ≤ ((List.range n).flatMap FG).length := by
 obtain ⟨tl, e⟩ := fl_split FG j n h
 rw [e] at hnd ⊢
 refine ⟨(List.nodup_append.1 (List.nodup_append.1 hnd).2.1).1, ?_⟩
 simp only [List.length_append]
 omega
theorem fl_lt {FG : Nat → List Nat} {n i j : Nat} (hij : i < j) (h : j < n) (hnd : ((List.range n).flatMap FG).Nodup) : ∀ g ∈ FG i, g ∉ FG j := fun g hi hj => by
 obtain ⟨tl, e⟩ := fl_split FG j n h
 rw [e] at hnd
 exact (List.nodup_append.1 hnd).2.2 g (fl_sub FG hij g hi) g (List.mem_append_left _ hj) rfl
theorem fl_dis {FG : Nat → List Nat} {n i j : Nat} (hij : i ≠ j) (h1 : i < n) (h : j < n) (hnd : ((List.range n).flatMap FG).Nodup) : ∀ g ∈ FG i, g ∉ FG j := fun g hi hj => by
 rcases Nat.lt_or_gt_of_ne hij with h2 | h2
 · exact fl_lt h2 h hnd g hi hj
 · exact fl_lt h2 h1 hnd g hj hi
theorem RdAll.fr {w w' : World} {N : Nat} {G H : List Nat} {R : List (List Ent)} (h : RdAll w N G R) (hf : AFr H w w') (hg : ∀ g ∈ G, g ∉ H) (hH : ∀ k ∈ H, N ≤ k) : RdAll w' N G R := ⟨h.1, fun j h1 h2 => (h.2 j h1 h2).fr hf (hg _ (List.getElem_mem _)) hH⟩
theorem RdAll.low {w w' : World} {N : Nat} {G : List Nat} {R : List (List Ent)} (h : RdAll w N G R) (B : Nat) (hg : ∀ g ∈ G, g < B) (hs : ∀ k, k < B → w'.heap[k]? = w.heap[k]?) : RdAll w' N G R := ⟨h.1, fun j h1 h2 => (h.2 j h1 h2).keep (hs _ (hg _ (List.getElem_mem _))) (fun b hb => hs b (by have := (h.2 j h1 h2).hi; have := hg _ (List.getElem_mem h1); omega))⟩
theorem AFr.base {G : List Nat} {q : Nat} {W Wb w : World} (h0 : Below W.heap.size W Wb) (h : AFr (q :: G) Wb w) (hq : W.heap.size ≤ q) : AFr G W w :=
 ⟨h.os.trans h0.os, h.tape.trans h0.tape, h.output.trans h0.output, Nat.le_trans h0.size h.size, fun k hk hn => by
  rw [h.keep k (Nat.lt_of_lt_of_le hk h0.size) (fun hm => by
   rcases List.mem_cons.1 hm with e | e
   · omega
   · exact hn e), h0.block k hk]⟩
theorem BrAt.st {W w : World} {b : Nat} {t : Tr} {df ls : Nat} {G G' : List Nat} (h : BrAt W b t df ls G) (hf : AFr G' W w) (hn : ∀ k ∈ G', k < W.heap.size → ¬ BrB W k) : BrAt w b t df ls G := h.stay (fun k hk hb => hf.keep k hk (fun hm => hn k hm hk hb))
theorem ptrs_st {W w : World} {a : Option Addr} {G G' : List Nat} (h : Lies W a (ptrs G)) (hf : AFr G' W w) (hn : ∀ k ∈ G', k < W.heap.size → ¬ BrB W k) : Lies w a (ptrs G) := ptrs_stay h (fun k hk hb => hf.keep k hk (fun hm => hn k hm hk hb))
theorem LiesD.six {w : World} {B g : Nat} {P : Nat → Prop} {a : Option Addr} {ds : List Dt} (h : LiesD w (fun b => B ≤ b) a ds) (hg : g < B) (hP : ∀ b, B ≤ b → P b) (v0 v1 v2 v3 v4 v5 : Value) : LiesD ((((((w.setCell ⟨g, 0, none⟩ v0).setCell ⟨g, 1, none⟩ v1).setCell ⟨g, 2, none⟩ v2).setCell ⟨g, 3, none⟩ v3).setCell ⟨g, 4, none⟩ v4).setCell ⟨g, 5, none⟩ v5) P a ds :=
 h.stay (fun b hb _ => hP b hb) (fun b hb _ => sixK _ _ _ (by omega) _ _ _ _ _ _)
set_option maxRecDepth 100000 in
set_option maxHeartbeats 6400000 in
theorem aone_group (t : Tr) (df ls : Nat) (hk : t.kind = 0) (hsl : t.sub.length ≤ 1048576) (fs : List Dt) (hlen : fs.length = t.sub.length) (hck : ∀ j (h : j < t.sub.length) (h' : j < fs.length), chk false t.sub[j] fs[j] = 0) (each : ∀ j (h : j < t.sub.length) (h' : j < fs.length), DatA t.sub[j] (dfN t df) (lsN t ls) fs[j]) : OneA t df ls (.mk false ⟨0, 0, ⟨#[]⟩⟩ [] fs) := by
 intro N b G rep rest W hb hnd hG hrl hR hh
 obtain ⟨iv, hvi, hv0, hv1, hv2⟩ := info_parts Tryz.infoD
 rw [en_eq, if_neg (by simp), if_neg (by simp), if_pos hk, if_pos (Or.inl rfl)] at hR
 cases hb with
 | leaf _ _ _ _ _ _ _ hk' => exact absurd hk hk'
 | group _ _ _ _ fa fc ra rc FB FG _ _ h0 cell hf each' hr hGe =>
  subst hGe
  have hl : ∀ j (h : j < t.sub.length), (FG j).length = lvC t.sub[j] := fun j h => (each' j h).len
  have hlt := hR.lt
  have hGz : ∀ g ∈ (List.range t.sub.length).flatMap FG, g < W.heap.size := fun g hg => (hlt g hg).2
  obtain ⟨E, HE⟩ : ∃ E : Nat → List (List Ent), Hid (∀ j (h : j < t.sub.length) (h' : j < fs.length), E j = zipA (en false t.sub[j] (dfN t df) (lsN t ls) rep fs[j]) (ptR t.sub rest j)) := ⟨fun j => if h : j < t.sub.length ∧ j < fs.length then zipA (en false t.sub[j] (dfN t df) (lsN t ls) rep fs[j]) (ptR t.sub rest j) else [], fun j h h' => dif_pos ⟨h, h'⟩⟩
  have HSt : Hid (∀ j (h : j < t.sub.length), RdAll W N (FG j) (if j < 0 then ptR t.sub rest j else E j)) := fun j h => by
   rw [if_neg (by omega), HE.out j h (by omega)]
   exact rdAll_part hl hlen hck hrl hR j h (by omega)
  have HPl : Hid (∀ j (h : j < t.sub.length), (ptR t.sub rest j).length = (FG j).length) := fun j h => ptR_len hl rest hrl j h
  have HHd : Hid (∀ j, ∀ es ∈ ptR t.sub rest j, hdR es ≤ (lsN t ls : Int)) := fun j es he => hh es (ptR_mem he)
  have HWh : Hid (∀ w, (∀ j, j < t.sub.length → RdAll w N (FG j) (ptR t.sub rest j)) → RdAll w N ((List.range t.sub.length).flatMap FG) rest) := fun w h => rdAll_whole hl hrl h
  have HDis : Hid (∀ i j, i ≠ j → i < t.sub.length → j < t.sub.length → ∀ g ∈ FG i, g ∉ FG j) := fun i j h h1 h2 => fl_dis h h1 h2 hnd
  have HSub : Hid (∀ j, j < t.sub.length → ∀ g ∈ FG j, g ∈ (List.range t.sub.length).flatMap FG) := fun j h => fl_sub FG h
  have HOne : Hid (∀ j, j < t.sub.length → (FG j).Nodup ∧ (FG j).length ≤ 1000) := fun j h => ⟨(fl_one h hnd).1, Nat.le_trans (fl_one h hnd).2 hG⟩
  have HLt : Hid _ := hlt
  have HGz : Hid _ := hGz
  have HNb0 : ∀ g ∈ (List.range t.sub.length).flatMap FG, ¬ BrB W g := fun g hg => by
   obtain ⟨rem, h2⟩ := hR.mem g hg
   exact h2.noB
  have HEach : Hid _ := each
  have HBr : Hid _ := each'
  have HFl : Hid _ := hf
  have hlen2 : Hid (fs.length = t.sub.length) := hlen
  obtain ⟨G, HGn⟩ := hid_name ((List.range t.sub.length).flatMap FG)
  rw [HGn.out] at HWh HSub HLt HGz HNb0 cell ⊢
  obtain ⟨w0, HW0, HX, HB⟩ := one_box W #[.bool false, .int .i64 0, .int .i64 0, .string ⟨#[]⟩, .slice none 0 0, .slice none 0 0] 56
  obtain ⟨w1, HW1, HY, HB1⟩ := one_box w0 #[.bool false, .int .i64 0, .int .i64 0, .string ⟨#[]⟩, .slice none 0 0, .slice none 0 0] 56
  have hs0 : W.heap.size < w0.heap.size := lt_of_block HX.out
  have hs1 : w0.heap.size < w1.heap.size := lt_of_block HY.out
  have HBb : Hid (Below W.heap.size W w1) := HB.out.trans (HB1.out.mono (by omega))
  have HXb : Hid _ := blk_keep HB1.out HX.out
  obtain ⟨c0, c1, c2, c3, c4⟩ := row_fiveB (blk_keep HB.out cell)
  have d3 : w1.cell? ⟨b, 3, none⟩ = some (.slice fa t.sub.length fc) := (row_fiveB (blk_keep HBb.out cell)).2.2.2.1
  obtain ⟨q, HQ⟩ := hid_name w0.heap.size
  rw [HQ.out] at HY hs1
  have hqW : W.heap.size < q := by have := HQ.out; omega
  have HNb : Hid (∀ k ∈ q :: G, k < W.heap.size → ¬ BrB W k) := fun k hm hk => by
   rcases List.mem_cons.1 hm with e | e
   · omega
   · exact HNb0 k e
  have HSt1 : Hid (∀ j (h : j < t.sub.length), RdAll w1 N (FG j) (if j < 0 then ptR t.sub rest j else E j)) := fun j h => (HSt.out j h).below HBb.out
  have HAg : Hid (AgI w1 (q :: G) fs w1 0 (.slice none 0 0) []) := .start fs (AFr.refl _ _) (fun g hg => by
   rcases List.mem_cons.1 hg with e | e
   · omega
   · have := HGz.out g e; omega)
  have hn0 : ((t.sub.length : Int) == 0) = false := by
   rw [beq_eq_false_iff_ne]; omega
  have hn1 : (t.sub.length == 0) = false := by
   rw [beq_eq_false_iff_ne]; omega
  have HNW : Hid (G = [] ∨ N ≤ W.heap.size) := (by
   show _ ∨ _
   rcases Nat.eq_zero_or_pos G.length with h | h
   · exact .inl (List.length_eq_zero_iff.1 h)
   · have := HLt.out G[0] (List.getElem_mem _)
     exact .inr (by omega))
  clear hnd hG hrl hR hh cell hr hl hlt hGz HSt HNb0 each each' hf hck hlen
  go_enter Tryz.func54, Tryz.ntmps54
  go_upto_region 1 with fail
  rw [HW0.out]
  go_upto_region 4 with fail
  rw [HW1.out, HQ.out]
  go_wp2_with fail
  go_loopw [28] (fun x wr => ∃ (i : Nat) (l : Value) (ncs : List (List Value)), i ≤ t.sub.length ∧ x = .int .i64 i ∧ Hid (AgI w1 (q :: G) fs wr i l ncs) ∧ Hid (wr.heap[q]? = some (.cells #[.bool false, .int .i64 0, .int .i64 0, .string ⟨#[]⟩, .slice none 0 0, l] 56 (0, 0))) ∧ Hid (∀ j (h : j < t.sub.length), RdAll wr N (FG j) (if j < i then ptR t.sub rest j else E j))) (fun x _ => t.sub.length - (intOf x).toNat)
  case atStart => exact ⟨0, _, [], Nat.zero_le _, rfl, HAg, HY, HSt1⟩
  case round =>
   clear HAg HY HSt1 c0 c1 c2 c3 c4 d3
   obtain ⟨i, l, ncs, hik, rfl, HD, HQr, HS⟩ := hrel
   have HFW : Hid (AFr (q :: G) W wr) := (AFr.of_below HBb.out).trans HD.out.fr
   by_cases hlt : i < t.sub.length
   · have hif : i < fs.length := by rw [hlen2.out]; exact hlt
     have h1 := HS.out i hlt
     rw [if_neg (by omega), HE.out i hlt hif] at h1
     have HT : Hid _ := HEach.out i hlt hif N (FB i) (FG i) rep (ptR t.sub rest i) wr ((HBr.out i hlt).st HFW.out HNb.out) (HOne.out i hlt).1 (HOne.out i hlt).2 (HPl.out i hlt) h1 (HHd.out i)
     obtain ⟨bb, oo, ea, hc⟩ := (ptrs_st HFl.out HFW.out HNb.out) i (by rw [ptrs_len]; simpa using hlt)
     rw [ptrs_at _ i _ (by simpa using hlt), List.getElem_map, List.getElem_range] at hc
     subst ea
     have q0 : (0 : Int) ≤ (i : Int) := by omega
     have q1 : (i : Int) < (t.sub.length : Int) := by omega
     clear h1
     obtain ⟨y, HYn⟩ := hid_name fs[i]
     rw [HYn.out] at HT
     go_wp2_with fail
     refine Calls.mono HT.out ?_
     rintro e w2 ⟨al, cl, af, cf, rfl, hl2, hf2, hr2, hff2⟩
     have hqi : q ∉ FG i := fun hm => by have := HGz.out q (HSub.out i hlt q hm); omega
     have HQ2 : Hid _ := hff2.box HQr.out hqi
     have HS2 : Hid (∀ j (h : j < t.sub.length), RdAll w2 N (FG j) (if j < i + 1 then ptR t.sub rest j else E j)) := fun j h => by
      by_cases e : j = i
      · subst e
        rw [if_pos (by omega)]
        exact hr2
      · have h3 := (HS.out j h).fr hff2 (HDis.out j i e h hlt) (fun k hk => (HLt.out k (HSub.out i hlt k hk)).1)
        by_cases hji : j < i
        · rw [if_pos hji] at h3
          rw [if_pos (by omega)]
          exact h3
        · rw [if_neg hji] at h3
          rw [if_neg (by omega)]
          exact h3
     have hf2m : AFr (q :: G) wr w2 := hff2.more (fun g hg => List.mem_cons_of_mem _ (HSub.out i hlt g hg))
     obtain ⟨w3, HW3, HZ3, HB3⟩ := one_box w2 #[.bool y.no, .int .i64 y.v.k, .int .i64 y.v.n, .string y.v.s, .slice al y.l.length cl, .slice af y.f.length cf] 56
     have HF3 : Hid (AFr (q :: G) wr w3) := hf2m.trans (AFr.of_below HB3.out)
     have HL3 : Hid (LiesD w3 (fun b => wr.heap.size ≤ b) al y.l) := hl2.keep HB3.out
     have HL4 : Hid (LiesD w3 (fun b => wr.heap.size ≤ b) af y.f) := hf2.keep HB3.out
     have HQ3 : Hid _ := blk_keep HB3.out HQ2.out
     have HS3 : Hid (∀ j (h : j < t.sub.length), RdAll w3 N (FG j) (if j < i + 1 then ptR t.sub rest j else E j)) := fun j h => (HS2.out j h).below HB3.out
     have HRow : Hid (w3.ownsRow w1.heap.size 56 6 l i ncs.flatten) := row_af HD.out.row HF3.out HD.out.lt
     have hwsz : w1.heap.size ≤ w3.heap.size := Nat.le_trans HD.out.fr.size HF3.out.size
     clear hl2 hf2 hr2 hff2 hf2m HQ2 HS2
     go_upto_region 8 with fail
     rw [HW3.out]
     obtain ⟨z0, z1, z2, z3, z4, z5⟩ := row_six HZ3.out
     obtain ⟨p0, p1, p2, p3, p4, p5⟩ := row_six HQ3.out
     go_wp2_with (at_builtin; refine wpList_append_where _ rfl _ _ 26 rfl w1.heap.size 56 iv (.agg #[.bool false, .int .i64 0, .int .i64 0, .string ⟨#[]⟩, .slice none 0 0, .slice none 0 0]) 6 88 Tryz.underlying26 hvi hv0 hv1 hv2 rfl (by decide) _ i ncs.flatten rfl (HRow.out.alloc _) ⟨_, 0, none⟩ 1 1 [.bool y.no, .int .i64 y.v.k, .int .i64 y.v.n, .string y.v.s, .slice al y.l.length cl, .slice af y.f.length cf] rfl rfl six_cells (by intro u hu; simp at hu; rcases hu with rfl | rfl | rfl | rfl | rfl | rfl <;> rfl) (by unfold maxLen; omega) (by omega) (by simp; omega) (by decide) ?_; intro l' w9 hown9 hgrow9 hwh; have HDn : Hid (AgI w1 (q :: G) fs w9 (i + 1) l' (ncs ++ [[.bool fs[i].no, .int .i64 fs[i].v.k, .int .i64 fs[i].v.n, .string fs[i].v.s, .slice al fs[i].l.length cl, .slice af fs[i].f.length cf]])) := HD.out.push hif HF3.out (by rw [HYn.out]; exact HL3.out) (by rw [HYn.out]; exact HL4.out) (by rw [HYn.out]; exact hown9) hgrow9 hwh; have HG9 : Hid (AFr (q :: G) w1 w9 ∧ ∀ k, k < w1.heap.size → w9.heap[k]? = w3.heap[k]?) := af_grow (HD.out.fr.trans HF3.out) hgrow9 (fun k hk => (HD.out.row.lt k hk).1); have HQ9 : Hid _ := (HG9.out.2 q hs1).trans HQ3.out; have HZ9 : Hid _ := row_six_z HQ9.out; clear p0 p1 p2 p3 p4 p5; obtain ⟨f0, f1, f2, f3, f4, f5⟩ := HZ9.out; obtain ⟨g0, g1, g2, g3, g4, g5⟩ := row_six HQ9.out; obtain ⟨a8, c8, rfl⟩ := HDn.out.shape)
     have HDm : Hid _ := HDn.out.go ((AFr.refl (q :: G) w9).setIn (g := q) (j := 5) (v := .slice a8 (i + 1) c8) (List.mem_cons_self ..))
     have HQn : Hid ((w9.setCell ⟨q, 5, none⟩ (.slice a8 (i + 1) c8)).heap[q]? = some (.cells #[.bool false, .int .i64 0, .int .i64 0, .string ⟨#[]⟩, .slice none 0 0, .slice a8 (i + 1) c8] 56 (0, 0))) := row_setC HQ9.out
     have HSn : Hid (∀ j (h : j < t.sub.length), RdAll (w9.setCell ⟨q, 5, none⟩ (.slice a8 (i + 1) c8)) N (FG j) (if j < i + 1 then ptR t.sub rest j else E j)) := fun j h => (HS3.out j h).low W.heap.size (fun g hg => HGz.out g (HSub.out j h g hg)) (fun k hk => by
      rw [Below.heap_setCell w9 ⟨q, 5, none⟩ _ k (by show k ≠ q; omega), HG9.out.2 k (by omega)])
     go_roundw
     case rel => exact ⟨i + 1, _, _, by omega, by go_num, HDm, HQn, HSn⟩
     case measure => simp [intOf]; omega
   · obtain rfl : i = t.sub.length := by omega
     have HRn : Hid (RdAll wr N G rest) := HWh.out wr (fun j h => by
      have h3 := HS.out j h
      rw [if_pos h] at h3
      exact h3)
     have HXr : Hid _ := HD.out.fr.box HXb.out (fun hm => by
      rcases List.mem_cons.1 hm with e | e
      · omega
      · have := HGz.out _ e; omega)
     have HFn : Hid (AFr G W wr) := AFr.base HBb.out HD.out.fr (by omega)
     obtain ⟨a9, c9, rfl⟩ := HD.out.shape
     have hd := HD.out
     have hle := hlen2.out
     have HLn : Hid (LiesD wr (fun b => w1.heap.size ≤ b) a9 fs) := (by
      rw [← hle] at hd
      exact hd.lies)
     have HGe : Hid (W.heap.size ∉ G) := (by
      show _ ∉ _
      intro hm
      have := HGz.out _ hm
      omega)
     obtain ⟨z0, z1, z2, z3, z4, z5⟩ := row_six HXr.out
     obtain ⟨y0, y1, y2, y3, y4, y5⟩ := row_six_z HXr.out
     obtain ⟨p0, p1, p2, p3, p4, p5⟩ := row_six HQr.out
     clear hd hle
     go_wp2
     refine bodyPost_ret (v := .tuple #[.agg #[.bool false, .int .i64 0, .int .i64 0, .string ⟨#[]⟩, .slice none 0 0, .slice a9 t.sub.length c9], .nilIface]) (results_cS Tryz.results54 _ _ W.heap.size 56 #[.bool false, .int .i64 0, .int .i64 0, .string ⟨#[]⟩, .slice none 0 0, .slice a9 t.sub.length c9] (0, 0) _ .nilIface rfl rfl (row_setC (row_setC (row_setC (row_setC (row_setC (row_setC HXr.out)))))) Tryz.underlying56 rfl (by kernel_rfl)) rfl ⟨none, 0, a9, c9, by rw [← hlen2.out]; rfl, liesD_no _ _ _, HLn.out.six (by omega) (fun b hb => by omega) _ _ _ _ _ _, ?_, sixA HFn.out (Nat.le_refl _) _ _ _ _ _ _⟩
     rcases HNW.out with h | h
     · subst h
       exact ⟨HRn.out.1, fun j h1 _ => absurd h1 (by simp)⟩
     · exact HRn.out.six HGe.out h _ _ _ _ _ _
theorem zipA_assoc : ∀ a b c : List (List Ent), zipA (zipA a b) c = zipA a (zipA b c)
 | [], _, _ => by simp [zipA]
 | _ :: _, [], _ => by simp [zipA]
 | _ :: _, _ :: _, [] => by simp [zipA]
 | x :: a, y :: b, z :: c => by
  have h := zipA_assoc a b c
  unfold zipA at h ⊢
  simp only [List.zipWith_cons_cons, List.append_assoc, h]
theorem zipA_nils : ∀ (n : Nat) (c : List (List Ent)), c.length = n → zipA (List.replicate n []) c = c
 | 0, [], _ => rfl
 | 0, _ :: _, h => by simp at h
 | n + 1, [], h => by simp at h
 | n + 1, z :: c, h => by
  have h := zipA_nils n c (by simpa using h)
  unfold zipA at h ⊢
  rw [List.replicate_succ, List.zipWith_cons_cons, h, List.nil_append]
theorem hdR_of {rep : Int} {p : Int → Prop} {es : List Ent} (h : Hd rep p es) : hdR es = rep := by
 obtain ⟨e, t, h1, h2, _⟩ := h
 rw [h1, ← h2]
 rfl
theorem list_rem (t : Tr) (df ls : Nat) (rep : Int) (ds : List Dt) (rest : List (List Ent)) (hck : ∀ j (h : j < ds.length), chk true t ds[j] = 0) (hrl : rest.length = lvC t) : ∃ (Rm : Nat → List (List Ent)) (rp : Nat → Int), Rm 0 = zipA (enL t df ls rep ds) rest ∧ Rm ds.length = rest ∧ (∀ i (h : i < ds.length), Rm i = zipA (en true t df ls (rp i) ds[i]) (Rm (i + 1))) ∧ (∀ i, (Rm i).length = lvC t) ∧ (∀ i, 0 < i → i < ds.length → ∀ es ∈ Rm i, hdR es = (ls : Int)) ∧ (∀ i, i < ds.length → ∀ es ∈ Rm i, ∃ x r, es = x :: r ∧ (df : Int) ≤ x.dfn) := by
 have hckd : ∀ i j (h : j < (ds.drop i).length), chk true t (ds.drop i)[j] = 0 := fun i j h => by
  rw [List.length_drop] at h
  rw [List.getElem_drop]
  exact hck _ (by omega)
 have hel : ∀ i r, (enL t df ls r (ds.drop i)).length = lvC t := fun i r => enL_len _ _ _ _ _ (hckd i)
 have hhd : ∀ i r, i < ds.length → ∀ es ∈ zipA (enL t df ls r (ds.drop i)) rest, Hd r (fun x => (df : Int) ≤ x) es := fun i r hi => zipA_hd (enL_hd _ _ _ _ _ (hckd i) (fun e => by
  have := congrArg List.length e
  rw [List.length_drop] at this
  simp at this
  omega))
 refine ⟨fun i => zipA (enL t df ls (if i = 0 then rep else (ls : Int)) (ds.drop i)) rest, fun i => if i = 0 then rep else (ls : Int), ?_, ?_, fun i h => ?_, fun i => ?_, fun i h0 h => ?_, fun i h es he => ?_⟩
 · simp
 · simp only [List.drop_length, enL]
   exact zipA_nils _ _ hrl
 · simp only
   rw [List.drop_eq_getElem_cons h, enL, zipA_assoc, if_neg (by omega : ¬ i + 1 = 0)]
 · rw [zipA_len _ _ (by rw [hel, hrl]), hel]
 · simp only
   rw [if_neg (by omega)]
   exact fun es he => hdR_of (hhd i _ h es he)
 · obtain ⟨x, r, h1, _, h3⟩ := hhd i _ h es he
   exact ⟨x, r, h1, h3⟩
def aLen : Value → Nat
 | .slice _ n _ => n
 | _ => 0
theorem BrAt.pos {w : World} {b : Nat} {t : Tr} {df ls : Nat} {G : List Nat} (h : BrAt w b t df ls G) : 0 < G.length := by
 induction h with
 | leaf b t df ls g ra rc hk cell hr => simp
 | group b t df ls fa fc ra rc FB FG G hk h0 cell hf each hr hG ih =>
  obtain ⟨tl, e⟩ := fl_split FG 0 t.sub.length h0
  rw [hG, e]
  have := ih 0 h0
  simp only [List.length_append]
  omega
set_option maxRecDepth 100000 in
set_option maxHeartbeats 6400000 in
theorem alist_of (t : Tr) (df ls : Nat) (h3 : t.rep = 3) (ds : List Dt) (hl40 : ds.length ≤ 40) (hne : 0 < ds.length) (hck : ∀ j (h : j < ds.length), chk true t ds[j] = 0) (each : ∀ j (h : j < ds.length), OneA t df ls ds[j])
    (N b : Nat) (G : List Nat) (rep : Int) (rest : List (List Ent)) (W : World) (hb : BrAt W b t df ls G) (hnd : G.Nodup) (hG : G.length ≤ 1000) (hrl : rest.length = G.length) (hR : RdAll W N G (zipA (enL t (df + 1) (ls + 1) rep ds) rest)) (hh : ∀ es ∈ rest, hdR es ≤ (ls : Int)) :
    Calls Tryz.prog (122) #[.pointer (some ⟨b, 0, none⟩)] W fun e w' => ∃ al cl, e = .returned (.tuple #[.agg #[.bool false, .int .i64 0, .int .i64 0, .string ⟨#[]⟩, .slice al ds.length cl, .slice none 0 0], .nilIface]) ∧ LiesD w' (fun b => W.heap.size ≤ b) al ds ∧ RdAll w' N G rest ∧ AFr G W w' := by
 obtain ⟨iv, hvi, hv0, hv1, hv2⟩ := info_parts Tryz.infoD
 have hmf : ∀ (fn : Fn) (first cap : Array Value) (w : World), (Instr.makeFunc fn first cap).run Tryz.prog w = .ok (.func fn first cap) w := fun _ _ _ _ => rfl
 have hdN : dfN t df = df + 1 := by unfold dfN; rw [if_neg (by omega)]
 have hlN : lsN t ls = ls + 1 := by unfold lsN; rw [if_pos h3]
 have hlv := hb.len
 have hpos := hb.pos
 obtain ⟨Rm, rp, hR0, hRe, hRs, hRl, hRh, hRi⟩ := list_rem t (df + 1) (ls + 1) rep ds rest hck (by rw [hrl, hlv])
 rw [← hR0] at hR
 have hlt := hR.lt
 have hNb0 : ∀ g ∈ G, ¬ BrB W g := fun g hg => by
  obtain ⟨rem, h2⟩ := hR.mem g hg
  exact h2.noB
 obtain ⟨w0, HW0, HP, HB⟩ := one_box W #[.pointer (some ⟨b, 0, none⟩)] 77
 obtain ⟨w1, HW1, HX, HB1⟩ := one_box w0 #[.bool false, .int .i64 0, .int .i64 0, .string ⟨#[]⟩, .slice none 0 0, .slice none 0 0] 56
 obtain ⟨w2, HW2, HY, HB2⟩ := one_box w1 #[.bool false, .int .i64 0, .int .i64 0, .string ⟨#[]⟩, .slice none 0 0, .slice none 0 0] 56
 have hs0 : W.heap.size < w0.heap.size := lt_of_block HP.out
 have hs1 : w0.heap.size < w1.heap.size := lt_of_block HX.out
 have hs2 : w1.heap.size < w2.heap.size := lt_of_block HY.out
 have HBb : Hid (Below W.heap.size W w2) := HB.out.trans ((HB1.out.mono (by omega)).trans (HB2.out.mono (by omega)))
 have HPb : Hid _ := blk_keep HB2.out (blk_keep HB1.out HP.out)
 have HXb : Hid _ := blk_keep HB2.out HX.out
 have hw0s : w0.heap.size = W.heap.size + 1 := by rw [← HW0.out]; simp
 rw [hw0s] at HX HXb hs1 hs0
 clear hw0s
 obtain ⟨rx, HRx⟩ := hid_name (W.heap.size + 1)
 obtain ⟨q, HQ⟩ := hid_name w1.heap.size
 obtain ⟨p, HPn⟩ := hid_name W.heap.size
 rw [HRx.out] at HX HXb hs1 hs0
 rw [HQ.out] at HY hs1 hs2
 rw [HPn.out] at hs0 HP HPb
 have HNb : Hid (∀ k ∈ q :: G, k < W.heap.size → ¬ BrB W k) := fun k hm hk => by
  rcases List.mem_cons.1 hm with e | e
  · have := HPn.out; omega
  · exact hNb0 k e
 have HGz : Hid (∀ g ∈ G, g < p) := fun g hg => by have := (hlt g hg).2; have := HPn.out; omega
 have HNW : Hid (N ≤ p) := (by
  have h := hlt G[0] (List.getElem_mem _)
  have h2 := HPn.out
  show _ ≤ _
  omega)
 have HAg : Hid (AgI w2 (q :: G) ds w2 0 (.slice none 0 0) []) := .start ds (AFr.refl _ _) (fun g hg => by
  rcases List.mem_cons.1 hg with e | e
  · omega
  · have := HGz.out g e; omega)
 have HSt : Hid (RdAll w2 N G (Rm 0)) := hR.below HBb.out
 have HBr : Hid (BrAt W b t df ls G) := hb
 have HEach : Hid (∀ i (h : i < ds.length), ∀ (X : World), BrAt X b t df ls G → RdAll X N G (Rm i) → _) := fun i h X hX hRX => by
  rw [hRs i h] at hRX
  exact each i h N b G (rp i) (Rm (i + 1)) X hX hnd hG (by rw [hRl, hlv]) (by rw [hdN, hlN]; exact hRX) (fun es he => by
   rw [hlN]
   by_cases hi : i + 1 < ds.length
   · rw [hRh (i + 1) (by omega) hi es he]; omega
   · have e : i + 1 = ds.length := by omega
     rw [e, hRe] at he
     have := hh es he
     omega)
 have HIn : Hid (∀ i, i < ds.length → ∀ (X : World), BrAt X b t df ls G → RdAll X N G (Rm i) → Calls Tryz.prog (80) #[.pointer (some ⟨b, 0, none⟩), .func (.func 120) #[.pointer (some ⟨b, 0, none⟩)] #[]] X fun e w' => e = .returned (.bool true) ∧ Below X.heap.size X w') := fun i hi X hX hRX => by
  obtain ⟨fv, ra, rc, hcell, hra, _⟩ := hX.box
  obtain ⟨c0, c1, c2, c3, c4⟩ := row_fiveB hcell
  refine Calls.mono (allI b b G (fun _ => true) hG ra rc X c4 hra (fun j h Y hY => ?_)) ?_
  · have h1 := (hRX.below hY).2 j h (by rw [← hRX.1]; exact h)
    obtain ⟨x, r, e, h2⟩ := hRi i hi _ (List.getElem_mem (by rw [← hRX.1]; exact h))
    rw [e] at h1
    exact clI N b G[j] df x r true (by rw [eq_comm, decide_eq_true_iff]; omega) Y ((hY.cell (World.block_lt_of_cell? X _ c1)).trans c1) h1
  · rintro e w' ⟨b', rfl, hiff, hb'⟩
    have hb2 := hiff.2 (fun _ _ => rfl)
    subst hb2
    exact ⟨rfl, hb'⟩
 have HMo : Hid (∀ i, i < ds.length → ∀ (X : World), BrAt X b t df ls G → RdAll X N G (Rm (i + 1)) → X.cell? ⟨p, 0, none⟩ = some (.pointer (some ⟨b, 0, none⟩)) → Calls Tryz.prog (51) #[.pointer (some ⟨b, 0, none⟩), .func (.func 133) #[] #[.pointer (some ⟨p, 0, none⟩)]] X fun e w' => e = .returned (.tuple #[.bool (decide (i + 1 < ds.length)), .nilIface]) ∧ Below X.heap.size X w') := fun i hi X hX hRX hp => by
  obtain ⟨fv, ra, rc, hcell, hra, _⟩ := hX.box
  obtain ⟨c0, c1, c2, c3, c4⟩ := row_fiveB hcell
  refine agreeL p b G (decide (i + 1 < ds.length)) hpos hG ra rc X c4 hra (fun j h Y hY => ?_)
  have h1 := (hRX.below hY).2 j h (by rw [← hRX.1]; exact h)
  refine clL N b p G[j] (ls + 1) _ _ ?_ Y ((hY.cell (World.block_lt_of_cell? X _ hp)).trans hp) (by rw [← hlN]; exact (hY.cell (World.block_lt_of_cell? X _ c2)).trans c2) h1
  have hm : (Rm (i + 1))[j]'(by rw [← hRX.1]; exact h) ∈ Rm (i + 1) := List.getElem_mem _
  by_cases hi2 : i + 1 < ds.length
  · rw [decide_eq_true hi2, hRh (i + 1) (by omega) hi2 _ hm]
    simp
  · have e : i + 1 = ds.length := by omega
    have h5 : ∀ es ∈ Rm (i + 1), hdR es ≤ (ls : Int) := by
     rw [e, hRe]
     exact hh
    have h6 := h5 _ hm
    rw [decide_eq_false hi2, eq_comm, decide_eq_false_iff_not]
    omega
 have HRe : Hid (Rm ds.length = rest) := hRe
 clear hnd hG hrl hR hh hlt hb each hck hNb0 hR0 hRe hRs hRl hRh hRi hlv
 go_enter Tryz.func122, Tryz.ntmps122
 go_upto_region 1 with fail
 rw [HW0.out, HW1.out]
 go_upto_region 3 with fail
 rw [HW2.out, HRx.out, HQ.out, HPn.out]
 go_loopw [5] (fun more wr => ∃ (i : Nat) (l : Value) (ncs : List (List Value)), i ≤ ds.length ∧ more = .bool (decide (i < ds.length)) ∧ Hid (AgI w2 (q :: G) ds wr i l ncs) ∧ Hid (wr.heap[q]? = some (.cells #[.bool false, .int .i64 0, .int .i64 0, .string ⟨#[]⟩, l, .slice none 0 0] 56 (0, 0))) ∧ Hid (RdAll wr N G (Rm i))) (fun _ wr => ds.length - aLen ((wr.cell? ⟨q, 4, none⟩).getD undef))
 case atStart => exact ⟨0, _, [], Nat.zero_le _, by rw [decide_eq_true hne], HAg, HY, HSt⟩
 case round =>
  clear HAg HY HSt
  obtain ⟨i, l, ncs, hik, rfl, HD, HQr, HS⟩ := hrel
  have HFW : Hid (AFr (q :: G) W wr) := (AFr.of_below HBb.out).trans HD.out.fr
  have hpG : p ∉ q :: G := fun hm => by
   rcases List.mem_cons.1 hm with e | e
   · omega
   · have := HGz.out _ e; omega
  have HPr : Hid _ := HD.out.fr.box HPb.out hpG
  by_cases hlt : i < ds.length
  · have qm : decide (i < ds.length) = true := decide_eq_true hlt
    have q40 : ((i : Int) == 40) = false := by rw [beq_eq_false_iff_ne]; omega
    rw [qm]
    obtain ⟨a0, c0, rfl⟩ := HD.out.shape
    obtain ⟨p0, p1, p2, p3, p4, p5⟩ := row_six HQr.out
    have pz := (row_one HPr.out).1
    have HC1 : Hid _ := HIn.out i hlt wr (HBr.out.st HFW.out HNb.out) HS.out
    go_wp2_with fail
    refine Calls.mono HC1.out ?_
    rintro e wa ⟨rfl, hba⟩
    have HBa : Hid (Below wr.heap.size wr wa) := hba
    have HPa : Hid _ := blk_keep hba HPr.out
    have HQa : Hid _ := blk_keep hba HQr.out
    clear hba p0 p1 p2 p3 p4 p5 pz HC1
    have pz := (row_one HPa.out).1
    obtain ⟨y, HYn⟩ := hid_name ds[i]
    have HC2 : Hid _ := HEach.out i hlt wa (HBr.out.st (HFW.out.trans (AFr.of_below HBa.out)) HNb.out) (HS.out.below HBa.out)
    rw [HYn.out] at HC2
    go_wp2_with fail
    refine Calls.mono HC2.out ?_
    rintro e w3 ⟨al, cl, af, cf, rfl, hl3, hf3, hr3, hff3⟩
    obtain ⟨w4, HW4, HZ4, HB4⟩ := one_box w3 #[.bool y.no, .int .i64 y.v.k, .int .i64 y.v.n, .string y.v.s, .slice al y.l.length cl, .slice af y.f.length cf] 56
    have hqG : q ∉ G := fun hm => by have := HGz.out q hm; omega
    have HQ4 : Hid _ := blk_keep HB4.out (hff3.box HQa.out hqG)
    have HF4 : Hid (AFr (q :: G) wr w4) := (AFr.of_below HBa.out).trans ((hff3.more (fun g hg => List.mem_cons_of_mem _ hg)).trans (AFr.of_below HB4.out))
    have hwa : wr.heap.size ≤ wa.heap.size := HBa.out.size
    have HL3 : Hid (LiesD w4 (fun b => wr.heap.size ≤ b) al y.l) := (hl3.stay (fun b h _ => Nat.le_trans hwa h) (fun _ _ _ => rfl)).keep HB4.out
    have HL4 : Hid (LiesD w4 (fun b => wr.heap.size ≤ b) af y.f) := (hf3.stay (fun b h _ => Nat.le_trans hwa h) (fun _ _ _ => rfl)).keep HB4.out
    have HS4 : Hid (RdAll w4 N G (Rm (i + 1))) := hr3.below HB4.out
    have HRow : Hid (w4.ownsRow w2.heap.size 56 6 (.slice a0 i c0) i ncs.flatten) := row_af HD.out.row HF4.out HD.out.lt
    have hwsz : w2.heap.size ≤ w4.heap.size := Nat.le_trans HD.out.fr.size HF4.out.size
    clear hl3 hf3 hr3 hff3 pz HC2
    go_upto_region 7 with fail
    rw [HW4.out]
    obtain ⟨z0, z1, z2, z3, z4, z5⟩ := row_six HZ4.out
    obtain ⟨p0, p1, p2, p3, p4, p5⟩ := row_six HQ4.out
    go_wp2_with (at_builtin; refine wpList_append_where _ rfl _ _ 26 rfl w2.heap.size 56 iv (.agg #[.bool false, .int .i64 0, .int .i64 0, .string ⟨#[]⟩, .slice none 0 0, .slice none 0 0]) 6 88 Tryz.underlying26 hvi hv0 hv1 hv2 rfl (by decide) _ i ncs.flatten rfl (HRow.out.alloc _) ⟨_, 0, none⟩ 1 1 [.bool y.no, .int .i64 y.v.k, .int .i64 y.v.n, .string y.v.s, .slice al y.l.length cl, .slice af y.f.length cf] rfl rfl six_cells (by intro u hu; simp at hu; rcases hu with rfl | rfl | rfl | rfl | rfl | rfl <;> rfl) (by unfold maxLen; omega) (by omega) (by simp; omega) (by decide) ?_; intro l' w9 hown9 hgrow9 hwh; have HDn : Hid (AgI w2 (q :: G) ds w9 (i + 1) l' (ncs ++ [[.bool ds[i].no, .int .i64 ds[i].v.k, .int .i64 ds[i].v.n, .string ds[i].v.s, .slice al ds[i].l.length cl, .slice af ds[i].f.length cf]])) := HD.out.push hlt HF4.out (by rw [HYn.out]; exact HL3.out) (by rw [HYn.out]; exact HL4.out) (by rw [HYn.out]; exact hown9) hgrow9 hwh; have HG9 : Hid (AFr (q :: G) w2 w9 ∧ ∀ k, k < w2.heap.size → w9.heap[k]? = w4.heap[k]?) := af_grow (HD.out.fr.trans HF4.out) hgrow9 (fun k hk => (HD.out.row.lt k hk).1); have HQ9 : Hid _ := (HG9.out.2 q hs2).trans HQ4.out; have HZ9 : Hid _ := row_six_z HQ9.out; clear p0 p1 p2 p3 p4 p5; obtain ⟨f0, f1, f2, f3, f4, f5⟩ := HZ9.out; obtain ⟨g0, g1, g2, g3, g4, g5⟩ := row_six HQ9.out; obtain ⟨a8, c8, rfl⟩ := HDn.out.shape; have HP9 : Hid _ := HDn.out.fr.box HPb.out hpG; have pz : (w9.setCell ⟨q, 4, none⟩ (.slice a8 (i + 1) c8)).cell? ⟨p, 0, none⟩ = some (.pointer (some ⟨b, 0, none⟩)) := (row_one ((Below.heap_setCell w9 ⟨q, 4, none⟩ (.slice a8 (i + 1) c8) p (by show p ≠ q; omega)).trans HP9.out)).1)
    have HDm : Hid _ := HDn.out.go ((AFr.refl (q :: G) w9).setIn (g := q) (j := 4) (v := .slice a8 (i + 1) c8) (List.mem_cons_self ..))
    have HQn : Hid ((w9.setCell ⟨q, 4, none⟩ (.slice a8 (i + 1) c8)).heap[q]? = some (.cells #[.bool false, .int .i64 0, .int .i64 0, .string ⟨#[]⟩, .slice a8 (i + 1) c8, .slice none 0 0] 56 (0, 0))) := row_setC HQ9.out
    have HSn : Hid (RdAll (w9.setCell ⟨q, 4, none⟩ (.slice a8 (i + 1) c8)) N G (Rm (i + 1))) := HS4.out.low p HGz.out (fun k hk => by
     rw [Below.heap_setCell w9 ⟨q, 4, none⟩ _ k (by show k ≠ q; omega), HG9.out.2 k (by omega)])
    obtain ⟨w5, HW5⟩ := hid_name (w9.setCell ⟨q, 4, none⟩ (.slice a8 (i + 1) c8))
    rw [HW5.out] at HDm HQn HSn
    have HP5 : Hid _ := HDm.out.fr.box HPb.out hpG
    have HC3 : Hid _ := HMo.out i hlt w5 (HBr.out.st ((AFr.of_below HBb.out).trans HDm.out.fr) HNb.out) HSn.out (row_one HP5.out).1
    clear f0 f1 f2 f3 f4 f5 z0 z1 z2 z3 z4 z5
    rw [HW5.out]
    refine Calls.mono HC3.out ?_
    rintro e w6 ⟨rfl, hb6⟩
    have HD6 : Hid _ := HDm.out.go (AFr.of_below hb6)
    have HQ6 : Hid _ := blk_keep hb6 HQn.out
    have HS6 : Hid _ := HSn.out.below hb6
    have HM6 : Hid (w6.cell? ⟨q, 4, none⟩ = some (.slice a8 (i + 1) c8)) := (row_six HQ6.out).2.2.2.2.1
    have HMr : Hid (wr.cell? ⟨q, 4, none⟩ = some (.slice a0 i c0)) := (row_six HQr.out).2.2.2.2.1
    clear hb6 HC3
    go_wp2
    go_roundw
    case rel => exact ⟨i + 1, _, _, hlt, rfl, HD6, HQ6, HS6⟩
    case measure => rw [HM6.out, HMr.out]; simp only [Option.getD, aLen]; omega
  · obtain rfl : i = ds.length := by omega
    have qm : decide (ds.length < ds.length) = false := decide_eq_false (by omega)
    rw [qm]
    have HRn : Hid (RdAll wr N G rest) := (by
     have h := HS.out
     rw [HRe.out] at h
     exact h)
    have hxG : rx ∉ q :: G := fun hm => by
     rcases List.mem_cons.1 hm with e | e
     · omega
     · have := HGz.out _ e; omega
    have HXr : Hid _ := HD.out.fr.box HXb.out hxG
    have hWp : W.heap.size = p := HPn.out
    have HFn : Hid (AFr G W wr) := AFr.base HBb.out HD.out.fr (by omega)
    have hWx : W.heap.size ≤ rx := by omega
    clear hWp
    obtain ⟨a9, c9, rfl⟩ := HD.out.shape
    have HLn : Hid (LiesD wr (fun b => w2.heap.size ≤ b) a9 ds) := HD.out.lies
    have HGe : Hid (rx ∉ G) := fun hm => hxG (List.mem_cons_of_mem _ hm)
    obtain ⟨z0, z1, z2, z3, z4, z5⟩ := row_six HXr.out
    obtain ⟨y0, y1, y2, y3, y4, y5⟩ := row_six_z HXr.out
    obtain ⟨p0, p1, p2, p3, p4, p5⟩ := row_six HQr.out
    have hNr : N ≤ rx := by have := HNW.out; omega
    go_wp2
    refine bodyPost_ret (v := .tuple #[.agg #[.bool false, .int .i64 0, .int .i64 0, .string ⟨#[]⟩, .slice a9 ds.length c9, .slice none 0 0], .nilIface]) (results_cS Tryz.results122 _ _ rx 56 #[.bool false, .int .i64 0, .int .i64 0, .string ⟨#[]⟩, .slice a9 ds.length c9, .slice none 0 0] (0, 0) _ .nilIface rfl rfl (row_setC (row_setC (row_setC (row_setC (row_setC (row_setC HXr.out)))))) Tryz.underlying56 rfl (by kernel_rfl)) rfl ⟨a9, c9, rfl, HLn.out.six (by omega) (fun b hb => by omega) _ _ _ _ _ _, HRn.out.six HGe.out hNr _ _ _ _ _ _, sixA HFn.out hWx _ _ _ _ _ _⟩
theorem agI_of {t : Tr} {df ls N b : Nat} {G : List Nat} {R : List (List Ent)} (v : Bool) {W : World} (hb : BrAt W b t df ls G) (hG : G.length ≤ 1000) (hR : RdAll W N G R) (hv : ∀ es ∈ R, ∃ x r, es = x :: r ∧ v = decide ((df : Int) < x.dfn)) : Calls Tryz.prog (51) #[.pointer (some ⟨b, 0, none⟩), .func (.func 120) #[.pointer (some ⟨b, 0, none⟩)] #[]] W fun e w' => e = .returned (.tuple #[.bool v, .nilIface]) ∧ Below W.heap.size W w' := by
 obtain ⟨fv, ra, rc, hcell, hra, _⟩ := hb.box
 obtain ⟨c0, c1, c2, c3, c4⟩ := row_fiveB hcell
 refine agreeI b b G v hb.pos hG ra rc W c4 hra (fun j h Y hY => ?_)
 have h1 := (hR.below hY).2 j h (by rw [← hR.1]; exact h)
 obtain ⟨x, r, e, h2⟩ := hv _ (List.getElem_mem (by rw [← hR.1]; exact h))
 rw [e] at h1
 exact clI N b G[j] df x r v h2 Y ((hY.cell (World.block_lt_of_cell? W _ c1)).trans c1) h1
theorem en_one {t : Tr} {d : Dt} (h3 : t.rep ≠ 3) (hno : d.no = false) (df ls : Nat) (rep : Int) : en false t df ls rep d = en true t (dfN t df) (lsN t ls) rep d := by
 have e1 : lsN t ls = ls := by unfold lsN; rw [if_neg h3]
 have hA : en false t df ls rep d = if t.kind = 0 then enF t.sub (if false = true ∨ t.rep = 1 then df else df + 1) ls rep d.f else [[⟨rep, ((if false = true ∨ t.rep = 1 then df else df + 1 : Nat) : Int), some d.v⟩]] := by
  rw [en_eq, if_neg (by simp [h3]), if_neg (by simp [hno])]
 have hB : en true t (dfN t df) ls rep d = if t.kind = 0 then enF t.sub (if true = true ∨ t.rep = 1 then dfN t df else dfN t df + 1) ls rep d.f else [[⟨rep, ((if true = true ∨ t.rep = 1 then dfN t df else dfN t df + 1 : Nat) : Int), some d.v⟩]] := by
  rw [en_eq, if_neg (by simp), if_neg (by simp)]
 rw [e1, hA, hB]
 unfold dfN
 by_cases h1 : t.rep = 1 <;> simp [h1]
theorem lsN_ge (t : Tr) (ls : Nat) : ls ≤ lsN t ls ∧ lsN t ls ≤ ls + 1 := by unfold lsN; split <;> omega
set_option maxRecDepth 100000 in
set_option maxHeartbeats 3200000 in
theorem datum_one (t : Tr) (df ls : Nat) (d : Dt) (h1 : t.rep = 1) (hno : d.no = false) (hO : OneA t df ls d) : DatA t df ls d := by
 intro N b G rep rest W hb hnd hG hrl hR hh
 rw [en_one (by omega) hno] at hR
 have hlt := hR.lt
 obtain ⟨w0, HW0, HX, HB⟩ := one_box W #[.bool false, .int .i64 0, .int .i64 0, .string ⟨#[]⟩, .slice none 0 0, .slice none 0 0] 56
 obtain ⟨fv, ra, rc, hcell, _⟩ := hb.box
 obtain ⟨c0, c1, c2, c3, c4⟩ := row_fiveB (blk_keep HB.out hcell)
 rw [h1] at c0
 have HC : Hid _ := hO N b G rep rest w0 (hb.kept HB.out) hnd hG hrl (hR.below HB.out) (fun es he => by have := hh es he; have := (lsN_ge t ls).1; omega)
 have HGe : Hid (W.heap.size ∉ G) := fun hm => by have := (hlt _ hm).2; omega
 have HNW : Hid (N ≤ W.heap.size) := (by
  have h := hlt (G[0]'hb.pos) (List.getElem_mem hb.pos)
  show _ ≤ _
  omega)
 have hw0 : W.heap.size < w0.heap.size := lt_of_block HX.out
 clear hb hnd hG hrl hR hh hlt hcell hO hno
 go_enter Tryz.func83, Tryz.ntmps83
 go_upto_region 1 with fail
 rw [HW0.out]
 go_wp2_with fail
 refine Calls.mono HC.out ?_
 rintro e w1 ⟨al, cl, af, cf, rfl, hl1, hf1, hr1, hff1⟩
 have HL : Hid (LiesD w1 (fun b => w0.heap.size ≤ b) al d.l) := hl1
 have HF : Hid (LiesD w1 (fun b => w0.heap.size ≤ b) af d.f) := hf1
 have HR : Hid (RdAll w1 N G rest) := hr1
 have HFr : Hid (AFr G W w1) := (AFr.of_below HB.out).trans hff1
 have HX1 : Hid _ := hff1.box HX.out HGe.out
 obtain ⟨z0, z1, z2, z3, z4, z5⟩ := row_six HX1.out
 obtain ⟨y0, y1, y2, y3, y4, y5⟩ := row_six_z HX1.out
 clear hl1 hf1 hr1 hff1
 go_wp2
 exact bodyPost_ret (v := .tuple #[.agg #[.bool d.no, .int .i64 d.v.k, .int .i64 d.v.n, .string d.v.s, .slice al d.l.length cl, .slice af d.f.length cf], .nilIface]) (results_cS Tryz.results83 _ _ W.heap.size 56 #[.bool d.no, .int .i64 d.v.k, .int .i64 d.v.n, .string d.v.s, .slice al d.l.length cl, .slice af d.f.length cf] (0, 0) _ .nilIface rfl rfl (row_setC (row_setC (row_setC (row_setC (row_setC (row_setC HX1.out)))))) Tryz.underlying56 rfl (by kernel_rfl)) rfl ⟨al, cl, af, cf, rfl, HL.out.six hw0 (fun b hb => by omega) _ _ _ _ _ _, HF.out.six hw0 (fun b hb => by omega) _ _ _ _ _ _, HR.out.six HGe.out HNW.out _ _ _ _ _ _, sixA HFr.out (Nat.le_refl _) _ _ _ _ _ _⟩
set_option maxRecDepth 100000 in
set_option maxHeartbeats 3200000 in
theorem datum_two (t : Tr) (df ls : Nat) (d : Dt) (h2 : t.rep = 2) (hck : chk false t d = 0) (hno : d.no = false) (hO : OneA t df ls d) : DatA t df ls d := by
 intro N b G rep rest W hb hnd hG hrl hR hh
 have hlt := hR.lt
 obtain ⟨w0, HW0, HX, HB⟩ := one_box W #[.bool false, .int .i64 0, .int .i64 0, .string ⟨#[]⟩, .slice none 0 0, .slice none 0 0] 56
 have HA : Hid _ := agI_of true (hb.kept HB.out) hG (hR.below HB.out) (fun es he => by
  obtain ⟨x, r, e, _, h⟩ := zipA_hd (en_hd d false t df ls rep hck) es he
  refine ⟨x, r, e, ?_⟩
  rw [eq_comm, decide_eq_true_iff]
  exact h.2.1 rfl (by omega) ⟨fun h3 => by omega, fun _ => hno⟩)
 rw [en_one (by omega) hno] at hR
 obtain ⟨fv, ra, rc, hcell, _⟩ := hb.box
 obtain ⟨c0, c1, c2, c3, c4⟩ := row_fiveB (blk_keep HB.out hcell)
 have HCl : Hid _ := blk_keep HB.out hcell
 rw [h2] at c0
 have HC : Hid (∀ w, Below w0.heap.size w0 w → _) := fun w hw => hO N b G rep rest w ((hb.kept HB.out).kept hw) hnd hG hrl ((hR.below HB.out).below hw) (fun es he => by have := hh es he; have := (lsN_ge t ls).1; omega)
 have HGe : Hid (W.heap.size ∉ G) := fun hm => by have := (hlt _ hm).2; omega
 have HNW : Hid (N ≤ W.heap.size) := (by
  have h := hlt (G[0]'hb.pos) (List.getElem_mem hb.pos)
  show _ ≤ _
  omega)
 have hw0 : W.heap.size < w0.heap.size := lt_of_block HX.out
 have hmf : ∀ (fn : Fn) (first cap : Array Value) (w : World), (Instr.makeFunc fn first cap).run Tryz.prog w = .ok (.func fn first cap) w := fun _ _ _ _ => rfl
 clear hb hnd hG hrl hR hh hlt hcell hO hck hno
 go_enter Tryz.func83, Tryz.ntmps83
 go_upto_region 1 with fail
 rw [HW0.out]
 go_wp2_with fail
 refine Calls.mono HA.out ?_
 rintro e wa ⟨rfl, hba⟩
 have HCa : Hid _ := HC.out wa hba
 have HBa : Hid _ := hba
 have hwa : W.heap.size < wa.heap.size := Nat.lt_of_lt_of_le hw0 hba.size
 have HCl2 : Hid _ := blk_keep hba HCl.out
 have HXa : Hid _ := blk_keep hba HX.out
 clear hba c0 c1 c2 c3 c4
 obtain ⟨c0, c1, c2, c3, c4⟩ := row_fiveB HCl2.out
 rw [h2] at c0
 go_wp2_with fail
 refine Calls.mono HCa.out ?_
 rintro e w1 ⟨al, cl, af, cf, rfl, hl1, hf1, hr1, hff1⟩
 have HL : Hid (LiesD w1 (fun b => wa.heap.size ≤ b) al d.l) := hl1
 have HF : Hid (LiesD w1 (fun b => wa.heap.size ≤ b) af d.f) := hf1
 have HR : Hid (RdAll w1 N G rest) := hr1
 have HFr : Hid (AFr G W w1) := ((AFr.of_below HB.out).trans (AFr.of_below HBa.out)).trans hff1
 have HX1 : Hid _ := hff1.box HXa.out HGe.out
 obtain ⟨z0, z1, z2, z3, z4, z5⟩ := row_six HX1.out
 obtain ⟨y0, y1, y2, y3, y4, y5⟩ := row_six_z HX1.out
 clear hl1 hf1 hr1 hff1 c0 c1 c2 c3 c4
 go_wp2
 exact bodyPost_ret (v := .tuple #[.agg #[.bool d.no, .int .i64 d.v.k, .int .i64 d.v.n, .string d.v.s, .slice al d.l.length cl, .slice af d.f.length cf], .nilIface]) (results_cS Tryz.results83 _ _ W.heap.size 56 #[.bool d.no, .int .i64 d.v.k, .int .i64 d.v.n, .string d.v.s, .slice al d.l.length cl, .slice af d.f.length cf] (0, 0) _ .nilIface rfl rfl (row_setC (row_setC (row_setC (row_setC (row_setC (row_setC HX1.out)))))) Tryz.underlying56 rfl (by kernel_rfl)) rfl ⟨al, cl, af, cf, rfl, HL.out.six hwa (fun b hb => by omega) _ _ _ _ _ _, HF.out.six hwa (fun b hb => by omega) _ _ _ _ _ _, HR.out.six HGe.out HNW.out _ _ _ _ _ _, sixA HFr.out (Nat.le_refl _) _ _ _ _ _ _⟩
set_option maxRecDepth 100000 in
set_option maxHeartbeats 3200000 in
theorem datum_three (t : Tr) (df ls : Nat) (ds : List Dt) (h3 : t.rep = 3) (hl40 : ds.length ≤ 40) (hne : 0 < ds.length) (hck : chk false t (.mk false ⟨0, 0, ⟨#[]⟩⟩ ds []) = 0) (hcl : ∀ j (h : j < ds.length), chk true t ds[j] = 0) (each : ∀ j (h : j < ds.length), OneA t df ls ds[j]) : DatA t df ls (.mk false ⟨0, 0, ⟨#[]⟩⟩ ds []) := by
 intro N b G rep rest W hb hnd hG hrl hR hh
 have hlt := hR.lt
 obtain ⟨w0, HW0, HX, HB⟩ := one_box W #[.bool false, .int .i64 0, .int .i64 0, .string ⟨#[]⟩, .slice none 0 0, .slice none 0 0] 56
 have HA : Hid _ := agI_of true (hb.kept HB.out) hG (hR.below HB.out) (fun es he => by
  obtain ⟨x, r, e, _, h⟩ := zipA_hd (en_hd _ false t df ls rep hck) es he
  refine ⟨x, r, e, ?_⟩
  rw [eq_comm, decide_eq_true_iff]
  exact h.2.1 rfl (by omega) ⟨fun _ e => by simp only [Dt.l] at e; rw [e] at hne; simp at hne, fun h => absurd h3 h⟩)
 rw [en_eq, if_pos ⟨rfl, h3⟩, if_neg (by simp only [Dt.l]; omega)] at hR
 obtain ⟨fv, ra, rc, hcell, _⟩ := hb.box
 obtain ⟨c0, c1, c2, c3, c4⟩ := row_fiveB (blk_keep HB.out hcell)
 have HCl : Hid _ := blk_keep HB.out hcell
 rw [h3] at c0
 have HC : Hid (∀ w, Below w0.heap.size w0 w → _) := fun w hw => alist_of t df ls h3 ds hl40 hne hcl each N b G rep rest w ((hb.kept HB.out).kept hw) hnd hG hrl ((hR.below HB.out).below hw) hh
 have HGe : Hid (W.heap.size ∉ G) := fun hm => by have := (hlt _ hm).2; omega
 have HNW : Hid (N ≤ W.heap.size) := (by
  have h := hlt (G[0]'hb.pos) (List.getElem_mem hb.pos)
  show _ ≤ _
  omega)
 have hw0 : W.heap.size < w0.heap.size := lt_of_block HX.out
 have hmf : ∀ (fn : Fn) (first cap : Array Value) (w : World), (Instr.makeFunc fn first cap).run Tryz.prog w = .ok (.func fn first cap) w := fun _ _ _ _ => rfl
 clear hb hnd hG hrl hR hh hlt hcell each hck hcl
 go_enter Tryz.func83, Tryz.ntmps83
 go_upto_region 1 with fail
 rw [HW0.out]
 go_wp2_with fail
 refine Calls.mono HA.out ?_
 rintro e wa ⟨rfl, hba⟩
 have HCa : Hid _ := HC.out wa hba
 have HBa : Hid _ := hba
 have hwa : W.heap.size < wa.heap.size := Nat.lt_of_lt_of_le hw0 hba.size
 have HCl2 : Hid _ := blk_keep hba HCl.out
 have HXa : Hid _ := blk_keep hba HX.out
 clear hba c0 c1 c2 c3 c4
 obtain ⟨c0, c1, c2, c3, c4⟩ := row_fiveB HCl2.out
 rw [h3] at c0
 go_wp2_with fail
 refine Calls.mono HCa.out ?_
 rintro e w1 ⟨al, cl, rfl, hl1, hr1, hff1⟩
 have HL : Hid (LiesD w1 (fun b => wa.heap.size ≤ b) al ds) := hl1
 have HR : Hid (RdAll w1 N G rest) := hr1
 have HFr : Hid (AFr G W w1) := ((AFr.of_below HB.out).trans (AFr.of_below HBa.out)).trans hff1
 have HX1 : Hid _ := hff1.box HXa.out HGe.out
 obtain ⟨z0, z1, z2, z3, z4, z5⟩ := row_six HX1.out
 obtain ⟨y0, y1, y2, y3, y4, y5⟩ := row_six_z HX1.out
 clear hl1 hr1 hff1 c0 c1 c2 c3 c4
 go_wp2
 exact bodyPost_ret (v := .tuple #[.agg #[.bool false, .int .i64 0, .int .i64 0, .string ⟨#[]⟩, .slice al ds.length cl, .slice none 0 0], .nilIface]) (results_cS Tryz.results83 _ _ W.heap.size 56 #[.bool false, .int .i64 0, .int .i64 0, .string ⟨#[]⟩, .slice al ds.length cl, .slice none 0 0] (0, 0) _ .nilIface rfl rfl (row_setC (row_setC (row_setC (row_setC (row_setC (row_setC HX1.out)))))) Tryz.underlying56 rfl (by kernel_rfl)) rfl ⟨al, cl, none, 0, rfl, HL.out.six hwa (fun b hb => by omega) _ _ _ _ _ _, liesD_no _ _ _, HR.out.six HGe.out HNW.out _ _ _ _ _ _, sixA HFr.out (Nat.le_refl _) _ _ _ _ _ _⟩
set_option maxRecDepth 100000 in
set_option maxHeartbeats 3200000 in
theorem datum_no (t : Tr) (df ls : Nat) (h1 : t.rep ≠ 1) (hls : ls ≤ 1000) (d : Dt) (hd : d = .mk (!decide (t.rep = 3)) ⟨0, 0, ⟨#[]⟩⟩ [] []) : DatA t df ls d := by
 intro N b G rep rest W hb hnd hG hrl hR hh
 have hlt := hR.lt
 have e : en false t df ls rep d = absE t df rep := by
  subst hd
  rw [en_eq]
  by_cases h : t.rep = 3
  · rw [if_pos ⟨rfl, h⟩, if_pos (by simp [Dt.l])]
  · rw [if_neg (by simp [h]), if_pos ⟨rfl, by simp [Dt.no, h]⟩]
 rw [e] at hR
 obtain ⟨w0, HW0, HX, HB⟩ := one_box W #[.bool false, .int .i64 0, .int .i64 0, .string ⟨#[]⟩, .slice none 0 0, .slice none 0 0] 56
 have HA : Hid _ := agI_of false (hb.kept HB.out) hG (hR.below HB.out) (fun es he => by
  obtain ⟨x, r, e, _, h⟩ := zipA_hd (absE_all t df rep) es he
  refine ⟨x, r, e, ?_⟩
  rw [eq_comm, decide_eq_false_iff_not, h]
  omega)
 obtain ⟨fv, ra, rc, hcell, _⟩ := hb.box
 obtain ⟨c0, c1, c2, c3, c4⟩ := row_fiveB (blk_keep HB.out hcell)
 have q1 : (t.rep == 1) = false := by rw [beq_eq_false_iff_ne]; exact h1
 have HC : Hid (∀ w, Below w0.heap.size w0 w → _) := fun w hw => nothing_any t df ls b N G rep rest w ((hb.kept HB.out).kept hw) hnd hG hls hrl ((hR.below HB.out).below hw) hh
 have HGe : Hid (W.heap.size ∉ G) := fun hm => by have := (hlt _ hm).2; omega
 have HNW : Hid (N ≤ W.heap.size) := (by
  have h := hlt (G[0]'hb.pos) (List.getElem_mem hb.pos)
  show _ ≤ _
  omega)
 have hw0 : W.heap.size < w0.heap.size := lt_of_block HX.out
 have hmf : ∀ (fn : Fn) (first cap : Array Value) (w : World), (Instr.makeFunc fn first cap).run Tryz.prog w = .ok (.func fn first cap) w := fun _ _ _ _ => rfl
 obtain ⟨n3, HN3⟩ := hid_name (!decide (t.rep = 3))
 rw [HN3.out] at HC hd
 clear hb hnd hG hrl hR hh hlt hcell e
 subst hd
 go_enter Tryz.func83, Tryz.ntmps83
 go_upto_region 1 with fail
 rw [HW0.out]
 go_wp2_with fail
 refine Calls.mono HA.out ?_
 rintro e wa ⟨rfl, hba⟩
 have HCa : Hid _ := HC.out wa hba
 have HBa : Hid _ := hba
 have HXa : Hid _ := blk_keep hba HX.out
 clear hba c0 c1 c2 c3 c4
 go_wp2_with fail
 refine Calls.mono HCa.out ?_
 rintro e w1 ⟨rfl, hr1, hff1⟩
 have HR : Hid (RdAll w1 N G rest) := hr1
 have HFr : Hid (AFr G W w1) := ((AFr.of_below HB.out).trans (AFr.of_below HBa.out)).trans hff1
 have HX1 : Hid _ := hff1.box HXa.out HGe.out
 obtain ⟨z0, z1, z2, z3, z4, z5⟩ := row_six HX1.out
 obtain ⟨y0, y1, y2, y3, y4, y5⟩ := row_six_z HX1.out
 clear hr1 hff1
 go_wp2
 exact bodyPost_ret (v := .tuple #[.agg #[.bool n3, .int .i64 0, .int .i64 0, .string ⟨#[]⟩, .slice none 0 0, .slice none 0 0], .nilIface]) (results_cS Tryz.results83 _ _ W.heap.size 56 #[.bool n3, .int .i64 0, .int .i64 0, .string ⟨#[]⟩, .slice none 0 0, .slice none 0 0] (0, 0) _ .nilIface rfl rfl (row_setC (row_setC (row_setC (row_setC (row_setC (row_setC HX1.out)))))) Tryz.underlying56 rfl (by kernel_rfl)) rfl ⟨none, 0, none, 0, rfl, liesD_no _ _ _, liesD_no _ _ _, HR.out.six HGe.out HNW.out _ _ _ _ _ _, sixA HFr.out (Nat.le_refl _) _ _ _ _ _ _⟩
theorem asub_cnt {t : Tr} (j : Nat) (h : j < t.sub.length) : t.sub[j].cnt < t.cnt := by
 have hm : ∀ (ts : List Tr) (i : Nat) (h : i < ts.length), ts[i].cnt ≤ cntL ts := fun ts => by
  induction ts with
  | nil => intro i h; simp at h
  | cons y ys ih =>
   intro i h
   rw [cntL]
   cases i with
   | zero => simp
   | succ i => have := ih i (by simpa using h); simp; omega
 have := hm t.sub j h
 rw [Tr.cnt_eq t]
 omega
theorem das_any : ∀ (n : Nat) (d : Dt), SizeOf.sizeOf d < n → ∀ (t : Tr) (df ls : Nat), t.Sm → (∀ y ∈ ndT t, 1 ≤ y.rep ∧ y.rep ≤ 3) → ls + t.cnt ≤ 1000 → (chk true t d = 0 → OneA t df ls d) ∧ (chk false t d = 0 → DatA t df ls d)
 | 0, d, h => absurd h (Nat.not_lt_zero _)
 | n + 1, d, hsz => fun t df ls hsm hrp hc => by
  have hf := d.f_size
  have hl := d.l_size
  have hlen := hsm.len
  have hat := hsm.at_
  have hr : 1 ≤ t.rep ∧ t.rep ≤ 3 := hrp t (by rw [ndT_eq]; exact List.mem_cons_self)
  have hone : ∀ y : Dt, SizeOf.sizeOf y < n + 1 → (∀ f, y = .mk false ⟨0, 0, ⟨#[]⟩⟩ [] f → f.length = t.sub.length → t.kind = 0 → (∀ j (h : j < t.sub.length) (h' : j < f.length), chk false t.sub[j] f[j] = 0) → OneA t df ls y) := fun y hy f e hfl hk each => by
   subst e
   have hf2 := Dt.f_size (.mk false ⟨0, 0, ⟨#[]⟩⟩ [] f)
   exact aone_group t df ls hk hlen f hfl each (fun j h h' => (das_any n f[j] (by have := hf2 j h'; simp only [Dt.f] at this; omega) t.sub[j] _ _ (hat j h) (fun y hy => hrp y (nd_sub (List.getElem_mem h) hy)) (by have := asub_cnt j h; have := (lsN_ge t ls).2; omega)).2 (each j h h'))
  refine ⟨fun hck => ?_, fun hck => ?_⟩
  · cases kd_of hck with
    | list l h1 h3 hl40 each => exact absurd h1 (by simp)
    | none h1 h2 => exact absurd h1 (by simp)
    | group f h1 hk hfl each => exact hone _ hsz f rfl hfl hk each
    | leaf v h1 hk hv ok => exact aone_leaf t df ls v hk
  · have hk := kd_of hck
    cases hk with
    | list l h1 h3 hl40 each =>
     rcases Nat.eq_zero_or_pos l.length with h0 | h0
     · have : l = [] := List.length_eq_zero_iff.1 h0
       subst this
       exact datum_no t df ls (by omega) (by omega) _ (by rw [decide_eq_true h3]; rfl)
     · exact datum_three t df ls l h3 hl40 h0 hck each (fun j h => (das_any n l[j] (by have := hl j h; simp only [Dt.l] at this; omega) t df ls hsm hrp hc).1 (each j h))
    | none h1 h2 => exact datum_no t df ls (by omega) (by omega) _ (by rw [decide_eq_false (by omega)]; rfl)
    | group f h1 hk hfl each =>
     have hO := hone _ hsz f rfl hfl hk each
     have h3 : t.rep ≠ 3 := fun e => h1 ⟨rfl, e⟩
     by_cases h : t.rep = 1
     · exact datum_one t df ls _ h rfl hO
     · exact datum_two t df ls _ (by omega) hck rfl hO
    | leaf v h1 hk hv ok =>
     have hO := aone_leaf t df ls v hk
     have h3 : t.rep ≠ 3 := fun e => h1 ⟨rfl, e⟩
     by_cases h : t.rep = 1
     · exact datum_one t df ls _ h rfl hO
     · exact datum_two t df ls _ (by omega) hck rfl hO
set_option maxRecDepth 100000 in
set_option maxHeartbeats 6400000 in
theorem records_of (t : Tr) (h1 : t.rep = 1) (ds : List Dt) (hdl : ds.length ≤ 100000) (hck : ∀ j (h : j < ds.length), chk true t ds[j] = 0) (each : ∀ j (h : j < ds.length), OneA t 0 0 ds[j])
    (N b : Nat) (G : List Nat) (W : World) (hb : BrAt W b t 0 0 G) (hnd : G.Nodup) (hG : G.length ≤ 1000) (hR : RdAll W N G (enL t 0 0 0 ds)) :
    Calls Tryz.prog (30) #[.pointer (some ⟨b, 0, none⟩)] W fun e w' => ∃ al cl, e = .returned (.tuple #[.slice al ds.length cl, .nilIface]) ∧ LiesD w' (fun b => W.heap.size ≤ b) al ds ∧ AFr G W w' := by
 obtain ⟨iv, hvi, hv0, hv1, hv2⟩ := info_parts Tryz.infoD
 have hdN : dfN t 0 = 0 := by unfold dfN; rw [if_pos h1]
 have hlN : lsN t 0 = 0 := by unfold lsN; rw [if_neg (by omega)]
 have hlv := hb.len
 have hpos := hb.pos
 obtain ⟨Rm, rp, hR0, hRe, hRs, hRl, hRh, hRi⟩ := list_rem t 0 0 0 ds (List.replicate (lvC t) []) hck (by simp)
 have hz : zipA (enL t 0 0 0 ds) (List.replicate (lvC t) []) = enL t 0 0 0 ds := by
  have hl := enL_len ds t 0 0 0 hck
  have hg : ∀ (n : Nat) (c : List (List Ent)), c.length = n → zipA c (List.replicate n []) = c := fun n => by
   induction n with
   | zero => intro c h; rw [List.length_eq_zero_iff.1 h]; rfl
   | succ n ih =>
    intro c h
    cases c with
    | nil => simp at h
    | cons x c =>
     have := ih c (by simpa using h)
     unfold zipA at this ⊢
     rw [List.replicate_succ, List.zipWith_cons_cons, this, List.append_nil]
  exact hg _ _ hl
 rw [hz] at hR0
 rw [← hR0] at hR
 have hlt := hR.lt
 have hNb0 : ∀ g ∈ G, ¬ BrB W g := fun g hg => by
  obtain ⟨rem, h2⟩ := hR.mem g hg
  exact h2.noB
 have HNb : Hid (∀ k ∈ G, k < W.heap.size → ¬ BrB W k) := fun k hm _ => hNb0 k hm
 have HGz : Hid (∀ g ∈ G, g < W.heap.size) := fun g hg => (hlt g hg).2
 have HAg : Hid (AgI W G ds W 0 (.slice none 0 0) []) := .start ds (AFr.refl _ _) HGz.out
 have HSt : Hid (RdAll W N G (Rm 0)) := hR
 have HBr : Hid (BrAt W b t 0 0 G) := hb
 have HEach : Hid (∀ i (h : i < ds.length), ∀ (X : World), BrAt X b t 0 0 G → RdAll X N G (Rm i) → _) := fun i h X hX hRX => by
  rw [hRs i h] at hRX
  exact each i h N b G (rp i) (Rm (i + 1)) X hX hnd hG (by rw [hRl, hlv]) (by rw [hdN, hlN]; exact hRX) (fun es he => by
   rw [hlN]
   by_cases hi : i + 1 < ds.length
   · rw [hRh (i + 1) (by omega) hi es he]; omega
   · have e : i + 1 = ds.length := by omega
     rw [e, hRe] at he
     rw [List.eq_of_mem_replicate he]
     exact Int.le_refl _)
 have HMo : Hid (∀ i, i ≤ ds.length → ∀ (X : World), BrAt X b t 0 0 G → RdAll X N G (Rm i) → Calls Tryz.prog (51) #[.pointer (some ⟨b, 0, none⟩), .func (.func 52) #[] #[]] X fun e w' => e = .returned (.tuple #[.bool (decide (i < ds.length)), .nilIface]) ∧ Below X.heap.size X w') := fun i hi X hX hRX => by
  obtain ⟨fv, ra, rc, hcell, hra, _⟩ := hX.box
  obtain ⟨c0, c1, c2, c3, c4⟩ := row_fiveB hcell
  refine agreeE b G (decide (i < ds.length)) hpos hG ra rc X c4 hra (fun j h Y hY => ?_)
  have h1 := (hRX.below hY).2 j h (by rw [← hRX.1]; exact h)
  refine clE N G[j] _ _ ?_ Y h1
  have hm : (Rm i)[j]'(by rw [← hRX.1]; exact h) ∈ Rm i := List.getElem_mem _
  by_cases hi2 : i < ds.length
  · obtain ⟨x, r, e, _⟩ := hRi i hi2 _ hm
    rw [decide_eq_true hi2, e]
    simp
  · have e : i = ds.length := by omega
    have h5 : ∀ es ∈ Rm i, es = [] := by
     rw [e, hRe]
     exact fun es he => List.eq_of_mem_replicate he
    rw [decide_eq_false hi2, h5 _ hm]
    simp
 clear hnd hG hR hlt hb each hck hNb0 hR0 hRe hRs hRl hRh hRi hlv hz
 go_enter Tryz.func30, Tryz.ntmps30
 go_wp2_with fail
 go_loopw [4] (fun l wr => ∃ (i : Nat) (ncs : List (List Value)), i ≤ ds.length ∧ Hid (AgI W G ds wr i l ncs) ∧ Hid (RdAll wr N G (Rm i))) (fun l _ => ds.length - aLen l)
 case atStart => exact ⟨0, [], Nat.zero_le _, HAg, HSt⟩
 case round =>
  clear HAg HSt
  obtain ⟨i, ncs, hik, HD, HS⟩ := hrel
  have HC1 : Hid _ := HMo.out i hik wr (HBr.out.st HD.out.fr HNb.out) HS.out
  obtain ⟨a0, c0, rfl⟩ := HD.out.shape
  by_cases hlt : i < ds.length
  · rw [decide_eq_true hlt] at HC1
    go_wp2_with fail
    refine Calls.mono HC1.out ?_
    rintro e wa ⟨rfl, hba⟩
    have HBa : Hid (Below wr.heap.size wr wa) := hba
    clear hba HC1
    obtain ⟨y, HYn⟩ := hid_name ds[i]
    have HC2 : Hid _ := HEach.out i hlt wa (HBr.out.st (HD.out.fr.trans (AFr.of_below HBa.out)) HNb.out) (HS.out.below HBa.out)
    rw [HYn.out] at HC2
    go_wp2_with fail
    refine Calls.mono HC2.out ?_
    rintro e w3 ⟨al, cl, af, cf, rfl, hl3, hf3, hr3, hff3⟩
    obtain ⟨w4, HW4, HZ4, HB4⟩ := one_box w3 #[.bool y.no, .int .i64 y.v.k, .int .i64 y.v.n, .string y.v.s, .slice al y.l.length cl, .slice af y.f.length cf] 56
    have HF4 : Hid (AFr G wr w4) := (AFr.of_below HBa.out).trans (hff3.trans (AFr.of_below HB4.out))
    have hwa : wr.heap.size ≤ wa.heap.size := HBa.out.size
    have HL3 : Hid (LiesD w4 (fun b => wr.heap.size ≤ b) al y.l) := (hl3.stay (fun b h _ => Nat.le_trans hwa h) (fun _ _ _ => rfl)).keep HB4.out
    have HL4 : Hid (LiesD w4 (fun b => wr.heap.size ≤ b) af y.f) := (hf3.stay (fun b h _ => Nat.le_trans hwa h) (fun _ _ _ => rfl)).keep HB4.out
    have HS4 : Hid (RdAll w4 N G (Rm (i + 1))) := hr3.below HB4.out
    have HRow : Hid (w4.ownsRow W.heap.size 56 6 (.slice a0 i c0) i ncs.flatten) := row_af HD.out.row HF4.out HD.out.lt
    have hwsz : W.heap.size ≤ w4.heap.size := Nat.le_trans HD.out.fr.size HF4.out.size
    clear hl3 hf3 hr3 hff3 HC2
    go_upto_region 8 with fail
    rw [HW4.out]
    obtain ⟨z0, z1, z2, z3, z4, z5⟩ := row_six HZ4.out
    go_wp2_with (at_builtin; refine wpList_append_where _ rfl _ _ 26 rfl W.heap.size 56 iv (.agg #[.bool false, .int .i64 0, .int .i64 0, .string ⟨#[]⟩, .slice none 0 0, .slice none 0 0]) 6 88 Tryz.underlying26 hvi hv0 hv1 hv2 rfl (by decide) _ i ncs.flatten rfl (HRow.out.alloc _) ⟨_, 0, none⟩ 1 1 [.bool y.no, .int .i64 y.v.k, .int .i64 y.v.n, .string y.v.s, .slice al y.l.length cl, .slice af y.f.length cf] rfl rfl six_cells (by intro u hu; simp at hu; rcases hu with rfl | rfl | rfl | rfl | rfl | rfl <;> rfl) (by unfold maxLen; omega) (by omega) (by simp; omega) (by decide) ?_; intro l' w9 hown9 hgrow9 hwh; have HDn : Hid (AgI W G ds w9 (i + 1) l' (ncs ++ [[.bool ds[i].no, .int .i64 ds[i].v.k, .int .i64 ds[i].v.n, .string ds[i].v.s, .slice al ds[i].l.length cl, .slice af ds[i].f.length cf]])) := HD.out.push hlt HF4.out (by rw [HYn.out]; exact HL3.out) (by rw [HYn.out]; exact HL4.out) (by rw [HYn.out]; exact hown9) hgrow9 hwh; have HG9 : Hid (AFr G W w9 ∧ ∀ k, k < W.heap.size → w9.heap[k]? = w4.heap[k]?) := af_grow (HD.out.fr.trans HF4.out) hgrow9 (fun k hk => (HD.out.row.lt k hk).1); obtain ⟨a8, c8, rfl⟩ := HDn.out.shape)
    have HSn : Hid (RdAll w9 N G (Rm (i + 1))) := HS4.out.low W.heap.size HGz.out HG9.out.2
    go_roundw
    case rel => exact ⟨i + 1, _, hlt, HDn, HSn⟩
    case measure => simp only [aLen]; omega
  · obtain rfl : i = ds.length := by omega
    rw [decide_eq_false hlt] at HC1
    go_wp2_with fail
    refine Calls.mono HC1.out ?_
    rintro e wa ⟨rfl, hba⟩
    have HDa : Hid _ := HD.out.go (AFr.of_below hba)
    clear hba HC1
    go_wp2
    go_ret2
    exact ⟨a0, c0, rfl, HDa.out.lies, HDa.out.fr⟩
end Go.Proofs.YteonbmaokphleaaGreatDoor
