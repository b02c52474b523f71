/-
  The reference's OwnData: copies of data, with lists of their own, if each datum is copied so.
-/
import Derived.Test.YteonbmaokphleaaGreatDoorHWeightD
import Derived.Test.YteonbmaokphleaaGreatDoorHBAppWhere
namespace Go.Proofs.YteonbmaokphleaaGreatDoor
open Go.RowKit
theorem Tryz.infoD : (Tryz.prog.info? 56).map (fun i => (i.zero, i.size, i.bytes)) = some (some (.agg #[.bool false, .int .i64 0, .int .i64 0, .string ⟨#[]⟩, .slice none 0 0, .slice none 0 0]), 6, 88) := by kernel_rfl
theorem flat6 : ∀ (ls : List (List Value)), (∀ l ∈ ls, l.length = 6) → ∀ j k, k < 6 → ls.flatten[j * 6 + k]? = (ls[j]?).bind fun l => l[k]?
 | [], _, j, k, _ => by simp
 | l :: ls, h, j, k, hk => by
  have hl : l.length = 6 := h l (by simp)
  have ih := flat6 ls (fun x hx => h x (by simp [hx]))
  rw [List.flatten_cons]
  cases j with
  | zero => rw [List.getElem?_append_left (by omega)]; simp
  | succ j =>
   rw [List.getElem?_append_right (by omega), show (j + 1) * 6 + k - l.length = j * 6 + k by omega, ih j k hk]
   simp
theorem six_cells {w : World} {x0 x1 x2 x3 x4 x5 : Value} {T : TypeId} : ∀ j u, [x0, x1, x2, x3, x4, x5][j]? = some u → (w.alloc (.cells #[x0, x1, x2, x3, x4, x5] T)).cell? ((⟨w.heap.size, 0, none⟩ : Addr).add j) = some u := fun j u h => by
 rw [addr_plus, Nat.zero_add]
 refine cell_alloc_at ?_ rfl
 simpa using h
structure OD (W : World) (ds : List Dt) (wr : World) (i : Nat) (l : Value) (ncs : List (List Value)) : Prop where
 len : ncs.length = i
 six : ∀ x ∈ ncs, x.length = 6
 row : wr.ownsRow W.heap.size 56 6 l i ncs.flatten
 each : ∀ j (h : j < ncs.length) (h' : j < ds.length), DtC wr (fun b => W.heap.size ≤ b ∧ l.ownBlock ≠ some b) ds[j] ncs[j]
 old : Below W.heap.size W wr
theorem OD.start (W : World) (ds : List Dt) : OD W ds W 0 (.slice none 0 0) [] := ⟨rfl, fun x hx => by simp at hx, World.ownsRow_nil _ _ _ _, fun j h => absurd h (by simp), Below.refl _ _⟩
theorem OD.shape {W : World} {ds : List Dt} {wr : World} {i : Nat} {l : Value} {ncs : List (List Value)} (h : OD W ds wr i l ncs) : ∃ a' c', l = .slice a' i c' := by
 rcases h.row.2 with ⟨rfl, rfl⟩ | ⟨g, cap, cur, rfl, _⟩
 · exact ⟨none, 0, rfl⟩
 · exact ⟨_, cap, rfl⟩
theorem OD.push {W : World} {ds : List Dt} {wr w1 w2 : World} {i : Nat} {l l' : Value} {ncs : List (List Value)} {al af : Option Addr} {cl cf : Nat} (h : OD W ds wr i l ncs) (hi : i < ds.length) (hb : Below wr.heap.size wr w1) (hl : LiesD w1 (fun b => wr.heap.size ≤ b) al ds[i].l) (hf : LiesD w1 (fun b => wr.heap.size ≤ b) af ds[i].f) {ob : Obj}
    (hown : w2.ownsRow W.heap.size 56 6 l' (i + 1) (ncs.flatten ++ [.bool ds[i].no, .int .i64 ds[i].v.k, .int .i64 ds[i].v.n, .string ds[i].v.s, .slice al ds[i].l.length cl, .slice af ds[i].f.length cf])) (hg : (w1.alloc ob).grownBy w2 l.ownBlock) (hw : l'.ownBlock = l.ownBlock ∧ l.ownBlock ≠ none ∨ l'.ownBlock = some (w1.alloc ob).heap.size) :
    OD W ds w2 (i + 1) l' (ncs ++ [[.bool ds[i].no, .int .i64 ds[i].v.k, .int .i64 ds[i].v.n, .string ds[i].v.s, .slice al ds[i].l.length cl, .slice af ds[i].f.length cf]]) := by
 have hbs := hb.size
 have hos := h.old.size
 have hgs := hg.size
 simp only [World.size_alloc] at hgs
 have hlb : ∀ k, l.ownBlock = some k → k < wr.heap.size := fun k hk => (h.row.lt k hk).2
 refine ⟨by rw [List.length_append, h.len]; rfl, fun x hx => ?_, ?_, fun j hj hj' => ?_, ((h.old.trans (hb.mono h.old.size)).alloc (h.old.trans (hb.mono h.old.size)).size ob).grown hg (by simp; omega) (fun k hk => (h.row.lt k hk).1)⟩
 · rcases List.mem_append.1 hx with hx | hx
   · exact h.six x hx
   · rw [List.mem_singleton.1 hx]; rfl
 · rw [List.flatten_append]
   simp only [List.flatten_cons, List.flatten_nil, List.append_nil]
   exact hown
 · by_cases hjl : j < ncs.length
   · rw [List.getElem_append_left hjl]
     have hQ : ∀ b, (W.heap.size ≤ b ∧ l.ownBlock ≠ some b) → b < wr.heap.size → (W.heap.size ≤ b ∧ l'.ownBlock ≠ some b) := fun b hP hlt => by
      refine ⟨hP.1, ?_⟩
      rcases hw with ⟨e, _⟩ | e
      · rw [e]; exact hP.2
      · rw [e]; simp; omega
     have hS : ∀ b, (W.heap.size ≤ b ∧ l.ownBlock ≠ some b) → b < wr.heap.size → w2.heap[b]? = wr.heap[b]? := fun b hP hlt => by
      rw [hg.block b (by simp; omega) (fun e => hP.2 e.symm), heap_alloc_old w1 ob (show b < w1.heap.size by omega), hb.block b hlt]
     exact (h.each j hjl hj').stay hQ hS
   · have hje : j = ncs.length := by rw [List.length_append] at hj; simp at hj; omega
     have hji : j = i := by rw [hje, h.len]
     subst hji
     have ee : (ncs ++ [[.bool ds[j].no, .int .i64 ds[j].v.k, .int .i64 ds[j].v.n, .string ds[j].v.s, .slice al ds[j].l.length cl, .slice af ds[j].f.length cf]])[j] = [.bool ds[j].no, .int .i64 ds[j].v.k, .int .i64 ds[j].v.n, .string ds[j].v.s, .slice al ds[j].l.length cl, .slice af ds[j].f.length cf] := by
      rw [List.getElem_append_right (by omega)]
      simp
     rw [ee]
     have hQ : ∀ b, wr.heap.size ≤ b → b < w1.heap.size → (W.heap.size ≤ b ∧ l'.ownBlock ≠ some b) := fun b hP hlt => by
      refine ⟨by omega, ?_⟩
      rcases hw with ⟨e, hne⟩ | e
      · rw [e]
        intro e2
        have := hlb b e2
        omega
      · rw [e]; simp; omega
     have hS : ∀ b, wr.heap.size ≤ b → b < w1.heap.size → w2.heap[b]? = w1.heap[b]? := fun b hP hlt => by
      rw [hg.block b (by simp; omega) (fun e => by have := hlb b e.symm; omega), heap_alloc_old w1 ob hlt]
     exact DtC.join cl cf (hl.stay hQ hS) (hf.stay hQ hS)
theorem OD.lies {W : World} {ds : List Dt} {wr : World} {a' : Option Addr} {c' : Nat} {ncs : List (List Value)} (h : OD W ds wr ds.length (.slice a' ds.length c') ncs) : LiesD wr (fun b => W.heap.size ≤ b) a' ds := by
 refine ⟨fun j => ncs.getD j [], fun j hj => ?_, fun j hj => ?_⟩
 · have hjn : j < ncs.length := by rw [h.len]; exact hj
   have e : ncs.getD j [] = ncs[j] := by simp [List.getD, hjn]
   show DtAt wr _ a' j (ncs.getD j [])
   rw [e]
   have h6 := h.six ncs[j] (List.getElem_mem hjn)
   rcases h.row.2 with ⟨_, h0⟩ | ⟨g, cap, cur, hv, hbg, _⟩
   · exact absurd hj (by omega)
   · have hv' := hv
     injection hv' with ha _ _
     subst ha
     have hc : ∀ k u, ncs[j][k]? = some u → k < 6 → wr.cell? ⟨g, j * 6 + k, none⟩ = some u := fun k u hu hk => by
      have h1 := h.row.cells (g := g) rfl (j * 6 + k) u (by rw [flat6 ncs h.six j k hk, List.getElem?_eq_getElem hjn]; exact hu)
      rw [addr_plus, Nat.zero_add] at h1
      exact h1
     generalize ncs[j] = cs at *
     match cs, h6 with
     | [x0, x1, x2, x3, x4, x5], _ =>
      have c0 := hc 0 x0 rfl (by omega)
      have c1 := hc 1 x1 rfl (by omega)
      have c2 := hc 2 x2 rfl (by omega)
      have c3 := hc 3 x3 rfl (by omega)
      have c4 := hc 4 x4 rfl (by omega)
      have c5 := hc 5 x5 rfl (by omega)
      exact ⟨g, 0, x0, x1, x2, x3, x4, x5, rfl, by omega, rfl, by simpa using c0, by simpa using c1, by simpa using c2, by simpa using c3, by simpa using c4, by simpa using c5⟩
 · have hjn : j < ncs.length := by rw [h.len]; exact hj
   have e : ncs.getD j [] = ncs[j] := by simp [List.getD, hjn]
   show DtC wr _ ds[j] (ncs.getD j [])
   rw [e]
   exact (h.each j hjn hj).stay (fun b hP _ => hP.1) (fun _ _ _ => rfl)
def OwnsD (d : Dt) : Prop := ∀ (P : Nat → Prop) (al : Option Addr) (cl : Nat) (af : Option Addr) (cf : Nat) (W : World), LiesD W P al d.l → LiesD W P af d.f →
 Calls Tryz.prog 27 #[datumV d al cl af cf] W fun e w' => (∃ al' cl' af' cf', e = .returned (datumV d al' cl' af' cf') ∧ LiesD w' (fun b => W.heap.size ≤ b) al' d.l ∧ LiesD w' (fun b => W.heap.size ≤ b) af' d.f) ∧ Below W.heap.size W w'
set_option maxRecDepth 100000 in
set_option maxHeartbeats 1600000 in
theorem ownData_row (ds : List Dt) (hlen : ds.length ≤ 1048576) (hown : ∀ j (h : j < ds.length), OwnsD ds[j]) (P : Nat → Prop) (a : Option Addr) (c : Nat) (W : World) (hl : LiesD W P a ds) :
    Calls Tryz.prog 9 #[.slice a ds.length c] W fun e w' => (∃ a' c' ncs, e = .returned (.slice a' ds.length c') ∧ OD W ds w' ds.length (.slice a' ds.length c') ncs) ∧ Below W.heap.size W w' := by
 obtain ⟨iv, hvi, hv0, hv1, hv2⟩ := info_parts Tryz.infoD
 have HL : Hid (LiesD W P a ds) := hl
 have HO : Hid (∀ j (h : j < ds.length), OwnsD ds[j]) := hown
 clear hl hown
 go_enter Tryz.func9, Tryz.ntmps9
 go_wp2_with fail
 go_loopw [3, 4] (fun l x wr => ∃ (i : Nat) (ncs : List (List Value)), i ≤ ds.length ∧ x = .int .i64 i ∧ Hid (OD W ds wr i l ncs)) (fun _ x _ => ds.length - (intOf x).toNat)
 case atStart => exact ⟨0, [], Nat.zero_le _, rfl, OD.start W ds⟩
 case round =>
  obtain ⟨i, ncs, hik, rfl, HD⟩ := hrel
  have hb := HD.out.old
  have hbs := hb.size
  by_cases hlt : i < ds.length
  · obtain ⟨b, o, a1, c1, a2, c2, rfl, ⟨d0, e1, d2, d3, d4, d5⟩, hl1, hl2⟩ := (HL.out.keep hb).at_ i hlt
    have HC : Hid _ := HO.out i hlt P a1 c1 a2 c2 wr hl1 hl2
    clear hl1 hl2
    go_wp2_with (first
     | (go_at_call 27; refine Calls.mono HC.out ?_; rintro e w1 ⟨⟨al, cl, af, cf, rfl, hl3, hl4⟩, hb1⟩; have HL3 : Hid _ := hl3; have HL4 : Hid _ := hl4; clear hl3 hl4)
     | (at_builtin; refine wpList_append_where _ rfl _ _ 26 rfl W.heap.size 56 iv (.agg #[.bool false, .int .i64 0, .int .i64 0, .string ⟨#[]⟩, .slice none 0 0, .slice none 0 0]) 6 88 Tryz.underlying26 hvi hv0 hv1 hv2 rfl (by decide) _ i ncs.flatten rfl ((ow_kept HD.out.row hb1).alloc _) ⟨_, 0, none⟩ 1 1 [.bool ds[i].no, .int .i64 ds[i].v.k, .int .i64 ds[i].v.n, .string ds[i].v.s, .slice al ds[i].l.length cl, .slice af ds[i].f.length cf] rfl rfl six_cells (by intro u hu; simp at hu; rcases hu with rfl | rfl | rfl | rfl | rfl | rfl <;> rfl) (by unfold maxLen; omega) (by omega) (by have := hb1.size; simp; omega) (by decide) ?_; intro l' w3 hown3 hgrow3 hwh; have HDn : Hid _ := HD.out.push hlt hb1 HL3.out HL4.out hown3 hgrow3 hwh))
    go_roundw
    case rel => exact ⟨i + 1, _, by omega, by go_num, HDn⟩
    case measure => simp [intOf]; omega
  · obtain rfl : i = ds.length := by omega
    obtain ⟨a', c', rfl⟩ := HD.out.shape
    go_wp2
    go_ret
    exact ⟨⟨a', c', ncs, rfl, HD.out⟩, hb⟩
theorem ownData_of (ds : List Dt) (hlen : ds.length ≤ 1048576) (hown : ∀ j (h : j < ds.length), OwnsD ds[j]) (P : Nat → Prop) (a : Option Addr) (c : Nat) (W : World) (hl : LiesD W P a ds) :
    Calls Tryz.prog 9 #[.slice a ds.length c] W fun e w' => (∃ a' c', e = .returned (.slice a' ds.length c') ∧ LiesD w' (fun b => W.heap.size ≤ b) a' ds) ∧ Below W.heap.size W w' := by
 refine (ownData_row ds hlen hown P a c W hl).mono ?_
 rintro e w' ⟨⟨a', c', ncs, rfl, h⟩, hb⟩
 exact ⟨⟨a', c', rfl, h.lies⟩, hb⟩
end Go.Proofs.YteonbmaokphleaaGreatDoor
