/-
  The reader of a schema's text: nodes, a group, the text.
-/
import Derived.Test.YtbaglcpcgpfjiaaGreatDoorFBSTok
namespace Go.Proofs.YtbaglcpcgpfjiaaGreatDoor
open Go.RowKit
/-- What reading a node promises. -/
def NodeOK (t : Tr) : Prop := ∀ (deep r : Nat) (s : ByteArray) (p q : Nat) (W : World), deep ≤ 1000 → RdAt r s p W → s.size ≤ 100000 → RdT s deep p q t →
  Calls Tryz.prog (39) #[.pointer (some ⟨r, 0, none⟩), .int .i64 (deep : Nat)] W fun e w' => ∃ a c, e = .returned (nodeV t a c) ∧ LiesN w' (fun b => W.heap.size ≤ b) a t.sub ∧ t.sub.length ≤ c ∧ RdAt r s q w' ∧ RFr r W w'
/-- .. nodes up to a word. -/
def NodesOK (ts : List Tr) : Prop := ∀ (deep r : Nat) (s : ByteArray) (p q : Nat) (endw : ByteArray) (a n : Nat) (W : World), deep ≤ 1000 → RdAt r s p W → s.size ≤ 100000 → RdL s deep p q ts → WdAt s q a n → s.extract a n = endw → Lib.idxOfS repW endw = -1 → ts.length ≤ 1048576 →
  Calls Tryz.prog (28) #[.pointer (some ⟨r, 0, none⟩), .int .i64 (deep : Nat), .string endw] W fun e w' => ∃ a' c', e = .returned (.slice a' ts.length c') ∧ LiesN w' (fun b => W.heap.size ≤ b) a' ts ∧ ts.length ≤ c' ∧ RdAt r s q w' ∧ RFr r W w'
/-- The first word of a node. -/
theorem RdT.first {s : ByteArray} {deep p q : Nat} {t : Tr} (h : RdT s deep p q t) : ∃ a n k, WdAt s p a n ∧ Lib.idxOfS repW (s.extract a n) = ((k : Nat) : Int) := by
  cases h with
  | leaf hh hrep hkind hk0 h5 h5n h5w =>
    obtain ⟨a1, n1, a2, n2, a3, n3, a4, d, ⟨u1, v1, x1⟩, _⟩ := hh.ex
    exact ⟨a1, n1, _, u1, x1⟩
  | group hh hrep hd hn h6 h6n h6w hl h8 h8n h8w =>
    obtain ⟨a1, n1, a2, n2, a3, n3, a4, d, ⟨u1, v1, x1⟩, _⟩ := hh.ex
    exact ⟨a1, n1, _, u1, x1⟩
/-- What nodes' loop keeps. -/
structure NsI (W : World) (r : Nat) (s : ByteArray) (deep q : Nat) (ts : List Tr) (wr : World) (i : Nat) (l : Value) (ncs : List (List Value)) : Prop where
  len : ncs.length = i
  le : i ≤ ts.length
  five : ∀ x ∈ ncs, x.length = 5
  row : wr.ownsRow W.heap.size 24 5 l i ncs.flatten
  each : ∀ j (h : j < ncs.length) (h' : j < ts.length), NodeC wr (fun b => W.heap.size ≤ b ∧ l.ownBlock ≠ some b) ts[j] ncs[j]
  rd : ∃ p, RdAt r s p wr ∧ RdL s deep p q (ts.drop i)
  fr : RFr r W wr
  lt : r < W.heap.size
theorem NsI.apart {W : World} {r : Nat} {s : ByteArray} {deep q : Nat} {ts : List Tr} {wr : World} {i : Nat} {l : Value} {ncs : List (List Value)} (h : NsI W r s deep q ts wr i l ncs) {k : Nat} (hk : k < W.heap.size) : some k ≠ l.ownBlock := by
  rcases h.row.2 with ⟨rfl, _⟩ | ⟨g, cap, cur, rfl, hg, _⟩
  · simp [Value.ownBlock]
  · simp [Value.ownBlock]; omega
theorem NsI.shape {W : World} {r : Nat} {s : ByteArray} {deep q : Nat} {ts : List Tr} {wr : World} {i : Nat} {l : Value} {ncs : List (List Value)} (h : NsI W r s deep q ts wr i l ncs) : ∃ a' c', l = .slice a' i c' ∧ i ≤ c' := by
  rcases h.row.2 with ⟨rfl, rfl⟩ | ⟨g, cap, cur, rfl, _, _, hnc, _⟩
  · exact ⟨none, 0, rfl, Nat.le_refl _⟩
  · exact ⟨_, cap, rfl, hnc⟩
/-- A row of one's own, behind calls of the reader. -/
theorem row_fr {r B e sz n : Nat} {W w' : World} {v : Value} {xs : List Value} (h : W.ownsRow B e sz v n xs) (hf : RFr r W w') (hr : r < B) : w'.ownsRow B e sz v n xs := by
  refine ⟨h.1, ?_⟩
  rcases h.2 with hn | ⟨g, cap, cur, rfl, hbg, hg, rest⟩
  · exact .inl hn
  · exact .inr ⟨g, cap, cur, rfl, hbg, hf.box hg (by omega), rest⟩
/-- A node is put behind the others. -/
theorem NsI.push {W : World} {r : Nat} {s : ByteArray} {deep q : Nat} {ts : List Tr} {wr w1 w2 : World} {i : Nat} {l l' : Value} {ncs : List (List Value)} {a1 : Option Addr} {c1 p1 : Nat} (h : NsI W r s deep q ts wr i l ncs) (hi : i < ts.length) (hf : RFr r wr w1) (hc1 : ts[i].sub.length ≤ c1) (hn : LiesN w1 (fun b => wr.heap.size ≤ b) a1 ts[i].sub) (hrd : RdAt r s p1 w1) (hl : RdL s deep p1 q (ts.drop (i + 1))) {ob : Obj}
    (hown : w2.ownsRow W.heap.size 24 5 l' (i + 1) (ncs.flatten ++ [.int .i64 ts[i].id, .string ts[i].nm, .int .i64 ts[i].rep, .int .i64 ts[i].kind, .slice a1 ts[i].sub.length c1])) (hg : (w1.alloc ob).grownBy w2 l.ownBlock) (hw : l'.ownBlock = l.ownBlock ∧ l.ownBlock ≠ none ∨ l'.ownBlock = some (w1.alloc ob).heap.size) :
    NsI W r s deep q ts w2 (i + 1) l' (ncs ++ [[.int .i64 ts[i].id, .string ts[i].nm, .int .i64 ts[i].rep, .int .i64 ts[i].kind, .slice a1 ts[i].sub.length c1]]) := by
  have hrs := h.fr.size
  have hbs := hf.size
  have hgs := hg.size
  simp only [World.size_alloc] at hgs
  have hlt := h.lt
  have hlb : ∀ k, l.ownBlock = some k → W.heap.size ≤ k ∧ k < wr.heap.size := fun k hk => h.row.lt k hk
  have hS2 : ∀ b, b < w1.heap.size → some b ≠ l.ownBlock → w2.heap[b]? = w1.heap[b]? := fun b hb hne => by
    rw [hg.block b (by simp; omega) hne, heap_alloc_old w1 ob hb]
  refine ⟨by rw [List.length_append, h.len]; rfl, hi, fun x hx => ?_, ?_, fun j hj hj' => ?_, ⟨p1, (hS2 r (by omega) (h.apart hlt)).trans hrd, hl⟩, ⟨hg.os.trans (hf.os.trans h.fr.os), hg.tape.trans (hf.tape.trans h.fr.tape), hg.output.trans (hf.output.trans h.fr.output), by omega, fun k hk hne => by rw [hS2 k (by omega) (h.apart hk), hf.keep k (by omega) hne, h.fr.keep k hk hne]⟩, hlt⟩
  · rcases List.mem_append.1 hx with hx | hx
    · exact h.five x hx
    · rw [List.mem_singleton.1 hx]; rfl
  · rw [List.flatten_append]
    simp only [List.flatten_cons, List.flatten_nil, List.append_nil]
    exact hown
  · by_cases hjl : j < ncs.length
    · rw [List.getElem_append_left hjl]
      have hQ : ∀ b, (W.heap.size ≤ b ∧ l.ownBlock ≠ some b) → b < wr.heap.size → (W.heap.size ≤ b ∧ l'.ownBlock ≠ some b) := fun b hP hlt => by
        refine ⟨hP.1, ?_⟩
        rcases hw with ⟨e, _⟩ | e
        · rw [e]; exact hP.2
        · rw [e]; simp; omega
      have hS : ∀ b, (W.heap.size ≤ b ∧ l.ownBlock ≠ some b) → b < wr.heap.size → w2.heap[b]? = wr.heap[b]? := fun b hP hb => by
        rw [hS2 b (by omega) (fun e => hP.2 e.symm), hf.keep b hb (by omega)]
      exact (h.each j hjl hj').stay hQ hS
    · have hje : j = ncs.length := by rw [List.length_append] at hj; simp at hj; omega
      have hji : j = i := by rw [hje, h.len]
      subst hji
      have ee : (ncs ++ [[.int .i64 ts[j].id, .string ts[j].nm, .int .i64 ts[j].rep, .int .i64 ts[j].kind, .slice a1 ts[j].sub.length c1]])[j] = [.int .i64 ts[j].id, .string ts[j].nm, .int .i64 ts[j].rep, .int .i64 ts[j].kind, .slice a1 ts[j].sub.length c1] := by
        rw [List.getElem_append_right (by omega)]
        simp
      rw [ee]
      have hQ : ∀ b, wr.heap.size ≤ b → b < w1.heap.size → (W.heap.size ≤ b ∧ l'.ownBlock ≠ some b) := fun b hP hlt => by
        refine ⟨by omega, ?_⟩
        rcases hw with ⟨e, hne⟩ | e
        · rw [e]
          intro e2
          have := (hlb b e2).2
          omega
        · rw [e]; simp; omega
      have hS : ∀ b, wr.heap.size ≤ b → b < w1.heap.size → w2.heap[b]? = w1.heap[b]? := fun b hP hb => hS2 b hb (fun e => by have := (hlb b e.symm).2; omega)
      exact NodeC.join c1 hc1 (hn.stay hQ hS)
/-- The nodes lie in the row. -/
theorem NsI.lies {W : World} {r : Nat} {s : ByteArray} {deep q : Nat} {ts : List Tr} {wr : World} {a' : Option Addr} {c' : Nat} {ncs : List (List Value)} (h : NsI W r s deep q ts wr ts.length (.slice a' ts.length c') ncs) : LiesN wr (fun b => W.heap.size ≤ b) a' ts := by
  refine ⟨fun j => ncs.getD j [], fun j hj => ?_, fun j hj => ?_⟩
  · have hjn : j < ncs.length := by rw [h.len]; exact hj
    have e : ncs.getD j [] = ncs[j] := by simp [List.getD, hjn]
    show NodeAt wr _ a' j (ncs.getD j [])
    rw [e]
    have h5 := h.five ncs[j] (List.getElem_mem hjn)
    rcases h.row.2 with ⟨_, h0⟩ | ⟨g, cap, cur, hv, hbg, _⟩
    · exact absurd hj (by omega)
    · have hv' := hv
      injection hv' with ha _ _
      subst ha
      have hc : ∀ k u, ncs[j][k]? = some u → k < 5 → wr.cell? ⟨g, j * 5 + k, none⟩ = some u := fun k u hu hk => by
        have h1 := h.row.cells (g := g) rfl (j * 5 + k) u (by rw [flat5 ncs h.five j k hk, List.getElem?_eq_getElem hjn]; exact hu)
        rw [addr_plus, Nat.zero_add] at h1
        exact h1
      generalize ncs[j] = cs at *
      match cs, h5 with
      | [x0, x1, x2, x3, x4], _ =>
        have c0 := hc 0 x0 rfl (by omega)
        have c1 := hc 1 x1 rfl (by omega)
        have c2 := hc 2 x2 rfl (by omega)
        have c3 := hc 3 x3 rfl (by omega)
        have c4 := hc 4 x4 rfl (by omega)
        exact ⟨g, 0, x0, x1, x2, x3, x4, rfl, by omega, rfl, by simpa using c0, by simpa using c1, by simpa using c2, by simpa using c3, by simpa using c4⟩
  · have hjn : j < ncs.length := by rw [h.len]; exact hj
    have e : ncs.getD j [] = ncs[j] := by simp [List.getD, hjn]
    show NodeC wr _ ts[j] (ncs.getD j [])
    rw [e]
    exact (h.each j hjn hj).stay (fun b hP _ => hP.1) (fun _ _ _ => rfl)
def nsLen : Value → Nat
  | .slice _ n _ => n
  | _ => 0
set_option maxRecDepth 100000 in
set_option maxHeartbeats 3200000 in
theorem nodes_of (ts : List Tr) (hts : ∀ t ∈ ts, NodeOK t) : NodesOK ts := fun deep r s p q endw a n W hdp hr hm hl hw hew hne hlen => by
  obtain ⟨iv, hvi, hv0, hv1, hv2⟩ := info_parts Tryz.infoN
  have HS : Hid (NsI W r s deep q ts W 0 (.slice none 0 0) []) := ⟨rfl, Nat.zero_le _, fun x hx => by simp at hx, World.ownsRow_nil _ _ _ _, fun j h => absurd h (by simp), ⟨p, hr, by simpa using hl⟩, .refl _ _, lt_of_block hr⟩
  have HW : Hid _ := hw
  have HE : Hid _ := hew
  have HN : Hid _ := hne
  have HT : Hid _ := hts
  have hd2 : (deep : Int) ≤ 1000 := by omega
  clear hr hl hw hew hne hts
  go_enter Tryz.func28, Tryz.ntmps28
  go_wp2_with fail
  go_loopw [7] (fun x wr => ∃ (i : Nat) (ncs : List (List Value)), Hid (NsI W r s deep q ts wr i x ncs)) (fun x _ => ts.length - nsLen x)
  case atStart => exact ⟨0, [], HS⟩
  case round =>
    clear HS
    obtain ⟨i, ncs, HO⟩ := hrel
    obtain ⟨p1, hrd, hrl⟩ := HO.out.rd
    obtain ⟨a7, c7, rfl, hc7⟩ := HO.out.shape
    have HR : Hid _ := hrd
    have HRL : Hid _ := hrl
    clear hrd hrl
    obtain ⟨g0, g1, g2⟩ := row_three HR.out
    by_cases hlt : i < ts.length
    · have HD : Hid (∃ p2, RdT s deep p1 p2 ts[i] ∧ RdL s deep p2 q (ts.drop (i + 1))) := (by
        have h := HRL.out
        rw [List.drop_eq_getElem_cons hlt] at h
        cases h with
        | cons ht hl => exact ⟨_, ht, hl⟩)
      obtain ⟨p2, hx⟩ := HD.out
      have HX : Hid _ := hx
      clear hx HD HRL
      obtain ⟨a1, n1, k1, hw1, hk1⟩ := HX.out.1.first
      have HW1 : Hid _ := hw1
      have q1 : ((s.extract a1 n1).toList == endw.toList) = false := (by
        rw [beq_eq_false_iff_ne]
        intro e
        have e2 : s.extract a1 n1 = endw := by
          rw [Lib.toList_data, Lib.toList_data] at e
          cases h1 : s.extract a1 n1 with | mk d1 => cases h2 : endw with | mk d2 =>
          rw [h1, h2] at e
          simp only at e
          rw [Array.toList_inj.1 e]
        rw [e2, HN.out] at hk1
        omega)
      clear hw1 hk1
      obtain ⟨z1, HZ⟩ : ∃ z1, Hid (s.extract a1 n1 = z1) := ⟨_, rfl⟩
      rw [HZ.out] at q1
      go_wp2_with fail
      refine (next_any r s p1 a1 n1 _ _ HR.out hm HW1.out).mono ?_
      rw [HZ.out]
      rintro e w1 ⟨rfl, hb1⟩
      have HR1 : Hid (RdAt r s p1 w1) := blk_keep hb1 HR.out
      have HF1 : Hid (RFr r wr w1) := .of_below hb1
      have hs1 := hb1.size
      clear hb1
      go_wp2_with fail
      refine (HT.out ts[i] (List.getElem_mem hlt) deep r s p1 p2 w1 hdp HR1.out hm HX.out.1).mono ?_
      rintro e w2 ⟨a2, c2, rfl, hl2, hc2, hr2, hf2⟩
      have HL2 : Hid (LiesN w2 (fun b => wr.heap.size ≤ b) a2 ts[i].sub) := hl2.stay (fun b hb _ => (by omega)) (fun _ _ _ => rfl)
      have HF2 : Hid (RFr r wr w2) := HF1.out.trans hf2
      have HR2 : Hid _ := hr2
      have HRow : Hid (w2.ownsRow W.heap.size 24 5 (.slice a7 i c7) i ncs.flatten) := row_fr HO.out.row HF2.out HO.out.lt
      clear hl2 hr2 hf2
      have hws : W.heap.size ≤ w2.heap.size := Nat.le_trans HO.out.fr.size HF2.out.size
      go_wp2_with (at_builtin; refine wpList_append_where _ rfl _ _ 22 rfl W.heap.size 24 iv (.agg #[.int .i64 0, .string ⟨#[]⟩, .int .i64 0, .int .i64 0, .slice none 0 0]) 5 64 Tryz.underlying22 hvi hv0 hv1 hv2 rfl (by decide) _ i ncs.flatten rfl (HRow.out.alloc _) ⟨w2.heap.size, 0, none⟩ 1 1 [.int .i64 ts[i].id, .string ts[i].nm, .int .i64 ts[i].rep, .int .i64 ts[i].kind, .slice a2 ts[i].sub.length c2] rfl rfl five_cells (by intro u hu; simp at hu; rcases hu with rfl | rfl | rfl | rfl | rfl <;> rfl) (by unfold maxLen; omega) (by omega) (by simp; omega) (by decide) ?_; intro l' w3 hown3 hgrow3 hwh; have HOn : Hid _ := HO.out.push hlt HF2.out hc2 HL2.out HR2.out HX.out.2 hown3 hgrow3 hwh; have HLn : Hid _ := own_shape hown3)
      go_roundw
      case rel => exact ⟨i + 1, _, HOn⟩
      case measure =>
        obtain ⟨g9, c9, rfl⟩ := HLn.out
        simp [nsLen]
        omega
    · obtain rfl : i = ts.length := by have := HO.out.le; omega
      have HP : Hid (p1 = q) := (by
        have h := HRL.out
        rw [List.drop_length] at h
        cases h with
        | nil => rfl)
      have q1 : ((s.extract a n).toList == endw.toList) = true := by rw [HE.out, beq_self_eq_true]
      have HW1 : Hid (WdAt s p1 a n) := HP.out ▸ HW.out
      obtain ⟨z1, HZ⟩ : ∃ z1, Hid (s.extract a n = z1) := ⟨_, rfl⟩
      rw [HZ.out] at q1
      go_wp2_with fail
      refine (next_any r s p1 a n _ _ HR.out hm HW1.out).mono ?_
      rw [HZ.out]
      rintro e w1 ⟨rfl, hb1⟩
      have HR1 : Hid (RdAt r s q w1) := (by rw [← HP.out]; exact blk_keep hb1 HR.out)
      have HF1 : Hid (RFr r W w1) := HO.out.fr.trans (.of_below hb1)
      have HL1 : Hid (LiesN w1 (fun b => W.heap.size ≤ b) a7 ts) := HO.out.lies.keep hb1
      clear hb1
      go_wp2
      go_ret
      exact ⟨_, _, rfl, HL1.out, hc7, HR1.out, HF1.out⟩
end Go.Proofs.YtbaglcpcgpfjiaaGreatDoor
