/-
  The reader of a schema's text: nodes, a group, the text.
  The reader of a schema's text: a group.
  (*strings.Builder).WriteString, for this program.
-/
import Derived.Test.YtnfjpngmadoflaaGreatDoorNBSTok
namespace Go.Proofs.YtnfjpngmadoflaaGreatDoor
open Go.RowKit
/-- What reading a node promises. -/
def NodeOK (t : Tr) : Prop := ∀ (deep r : Nat) (s : ByteArray) (p q : Nat) (W : World), deep ≤ 1000 → RdAt r s p W → s.size ≤ 100000 → RdT s deep p q t →
  Calls Tryz.prog (46) #[.pointer (some ⟨r, 0, none⟩), .int .i64 (deep : Nat)] W fun e w' => ∃ a c, e = .returned (nodeV t a c) ∧ LiesN w' (fun b => W.heap.size ≤ b) a t.sub ∧ t.sub.length ≤ c ∧ RdAt r s q w' ∧ RFr r W w'
/-- .. nodes up to a word. -/
def NodesOK (ts : List Tr) : Prop := ∀ (deep r : Nat) (s : ByteArray) (p q : Nat) (endw : ByteArray) (a n : Nat) (W : World), deep ≤ 1000 → RdAt r s p W → s.size ≤ 100000 → RdL s deep p q ts → WdAt s q a n → s.extract a n = endw → Lib.idxOfS repW endw = -1 → ts.length ≤ 1048576 →
  Calls Tryz.prog (29) #[.pointer (some ⟨r, 0, none⟩), .int .i64 (deep : Nat), .string endw] W fun e w' => ∃ a' c', e = .returned (.slice a' ts.length c') ∧ LiesN w' (fun b => W.heap.size ≤ b) a' ts ∧ ts.length ≤ c' ∧ RdAt r s q w' ∧ RFr r W w'
/-- The first word of a node. -/
theorem RdT.first {s : ByteArray} {deep p q : Nat} {t : Tr} (h : RdT s deep p q t) : ∃ a n k, WdAt s p a n ∧ Lib.idxOfS repW (s.extract a n) = ((k : Nat) : Int) := by
  cases h with
  | leaf hh hrep hkind hk0 h5 h5n h5w =>
    obtain ⟨a1, n1, a2, n2, a3, n3, a4, d, ⟨u1, v1, x1⟩, _⟩ := hh.ex
    exact ⟨a1, n1, _, u1, x1⟩
  | group hh hrep hd hn h6 h6n h6w hl h8 h8n h8w =>
    obtain ⟨a1, n1, a2, n2, a3, n3, a4, d, ⟨u1, v1, x1⟩, _⟩ := hh.ex
    exact ⟨a1, n1, _, u1, x1⟩
/-- What nodes' loop keeps. -/
structure NsI (W : World) (r : Nat) (s : ByteArray) (deep q : Nat) (ts : List Tr) (wr : World) (i : Nat) (l : Value) (ncs : List (List Value)) : Prop where
  len : ncs.length = i
  le : i ≤ ts.length
  five : ∀ x ∈ ncs, x.length = 5
  row : wr.ownsRow W.heap.size 24 5 l i ncs.flatten
  each : ∀ j (h : j < ncs.length) (h' : j < ts.length), NodeC wr (fun b => W.heap.size ≤ b ∧ l.ownBlock ≠ some b) ts[j] ncs[j]
  rd : ∃ p, RdAt r s p wr ∧ RdL s deep p q (ts.drop i)
  fr : RFr r W wr
  lt : r < W.heap.size
theorem NsI.apart {W : World} {r : Nat} {s : ByteArray} {deep q : Nat} {ts : List Tr} {wr : World} {i : Nat} {l : Value} {ncs : List (List Value)} (h : NsI W r s deep q ts wr i l ncs) {k : Nat} (hk : k < W.heap.size) : some k ≠ l.ownBlock := by
  rcases h.row.2 with ⟨rfl, _⟩ | ⟨g, cap, cur, rfl, hg, _⟩
  · simp [Value.ownBlock]
  · simp [Value.ownBlock]; omega
theorem NsI.shape {W : World} {r : Nat} {s : ByteArray} {deep q : Nat} {ts : List Tr} {wr : World} {i : Nat} {l : Value} {ncs : List (List Value)} (h : NsI W r s deep q ts wr i l ncs) : ∃ a' c', l = .slice a' i c' ∧ i ≤ c' := by
  rcases h.row.2 with ⟨rfl, rfl⟩ | ⟨g, cap, cur, rfl, _, _, hnc, _⟩
  · exact ⟨none, 0, rfl, Nat.le_refl _⟩
  · exact ⟨_, cap, rfl, hnc⟩
/-- A row of one's own, behind calls of the reader. -/
theorem row_fr {r B e sz n : Nat} {W w' : World} {v : Value} {xs : List Value} (h : W.ownsRow B e sz v n xs) (hf : RFr r W w') (hr : r < B) : w'.ownsRow B e sz v n xs := by
  refine ⟨h.1, ?_⟩
  rcases h.2 with hn | ⟨g, cap, cur, rfl, hbg, hg, rest⟩
  · exact .inl hn
  · exact .inr ⟨g, cap, cur, rfl, hbg, hf.box hg (by omega), rest⟩
/-- A node is put behind the others. -/
theorem NsI.push {W : World} {r : Nat} {s : ByteArray} {deep q : Nat} {ts : List Tr} {wr w1 w2 : World} {i : Nat} {l l' : Value} {ncs : List (List Value)} {a1 : Option Addr} {c1 p1 : Nat} (h : NsI W r s deep q ts wr i l ncs) (hi : i < ts.length) (hf : RFr r wr w1) (hc1 : ts[i].sub.length ≤ c1) (hn : LiesN w1 (fun b => wr.heap.size ≤ b) a1 ts[i].sub) (hrd : RdAt r s p1 w1) (hl : RdL s deep p1 q (ts.drop (i + 1))) {ob : Obj}
    (hown : w2.ownsRow W.heap.size 24 5 l' (i + 1) (ncs.flatten ++ [.int .i64 ts[i].id, .string ts[i].nm, .int .i64 ts[i].rep, .int .i64 ts[i].kind, .slice a1 ts[i].sub.length c1])) (hg : (w1.alloc ob).grownBy w2 l.ownBlock) (hw : l'.ownBlock = l.ownBlock ∧ l.ownBlock ≠ none ∨ l'.ownBlock = some (w1.alloc ob).heap.size) :
    NsI W r s deep q ts w2 (i + 1) l' (ncs ++ [[.int .i64 ts[i].id, .string ts[i].nm, .int .i64 ts[i].rep, .int .i64 ts[i].kind, .slice a1 ts[i].sub.length c1]]) := by
  have hrs := h.fr.size
  have hbs := hf.size
  have hgs := hg.size
  simp only [World.size_alloc] at hgs
  have hlt := h.lt
  have hlb : ∀ k, l.ownBlock = some k → W.heap.size ≤ k ∧ k < wr.heap.size := fun k hk => h.row.lt k hk
  have hS2 : ∀ b, b < w1.heap.size → some b ≠ l.ownBlock → w2.heap[b]? = w1.heap[b]? := fun b hb hne => by
    rw [hg.block b (by simp; omega) hne, heap_alloc_old w1 ob hb]
  refine ⟨by rw [List.length_append, h.len]; rfl, hi, fun x hx => ?_, ?_, fun j hj hj' => ?_, ⟨p1, (hS2 r (by omega) (h.apart hlt)).trans hrd, hl⟩, ⟨hg.os.trans (hf.os.trans h.fr.os), hg.tape.trans (hf.tape.trans h.fr.tape), hg.output.trans (hf.output.trans h.fr.output), by omega, fun k hk hne => by rw [hS2 k (by omega) (h.apart hk), hf.keep k (by omega) hne, h.fr.keep k hk hne]⟩, hlt⟩
  · rcases List.mem_append.1 hx with hx | hx
    · exact h.five x hx
    · rw [List.mem_singleton.1 hx]; rfl
  · rw [List.flatten_append]
    simp only [List.flatten_cons, List.flatten_nil, List.append_nil]
    exact hown
  · by_cases hjl : j < ncs.length
    · rw [List.getElem_append_left hjl]
      have hQ : ∀ b, (W.heap.size ≤ b ∧ l.ownBlock ≠ some b) → b < wr.heap.size → (W.heap.size ≤ b ∧ l'.ownBlock ≠ some b) := fun b hP hlt => by
        refine ⟨hP.1, ?_⟩
        rcases hw with ⟨e, _⟩ | e
        · rw [e]; exact hP.2
        · rw [e]; simp; omega
      have hS : ∀ b, (W.heap.size ≤ b ∧ l.ownBlock ≠ some b) → b < wr.heap.size → w2.heap[b]? = wr.heap[b]? := fun b hP hb => by
        rw [hS2 b (by omega) (fun e => hP.2 e.symm), hf.keep b hb (by omega)]
      exact (h.each j hjl hj').stay hQ hS
    · have hje : j = ncs.length := by rw [List.length_append] at hj; simp at hj; omega
      have hji : j = i := by rw [hje, h.len]
      subst hji
      have ee : (ncs ++ [[.int .i64 ts[j].id, .string ts[j].nm, .int .i64 ts[j].rep, .int .i64 ts[j].kind, .slice a1 ts[j].sub.length c1]])[j] = [.int .i64 ts[j].id, .string ts[j].nm, .int .i64 ts[j].rep, .int .i64 ts[j].kind, .slice a1 ts[j].sub.length c1] := by
        rw [List.getElem_append_right (by omega)]
        simp
      rw [ee]
      have hQ : ∀ b, wr.heap.size ≤ b → b < w1.heap.size → (W.heap.size ≤ b ∧ l'.ownBlock ≠ some b) := fun b hP hlt => by
        refine ⟨by omega, ?_⟩
        rcases hw with ⟨e, hne⟩ | e
        · rw [e]
          intro e2
          have := (hlb b e2).2
          omega
        · rw [e]; simp; omega
      have hS : ∀ b, wr.heap.size ≤ b → b < w1.heap.size → w2.heap[b]? = w1.heap[b]? := fun b hP hb => hS2 b hb (fun e => by have := (hlb b e.symm).2; omega)
      exact NodeC.join c1 hc1 (hn.stay hQ hS)
/-- The nodes lie in the row. -/
theorem NsI.lies {W : World} {r : Nat} {s : ByteArray} {deep q : Nat} {ts : List Tr} {wr : World} {a' : Option Addr} {c' : Nat} {ncs : List (List Value)} (h : NsI W r s deep q ts wr ts.length (.slice a' ts.length c') ncs) : LiesN wr (fun b => W.heap.size ≤ b) a' ts := by
  refine ⟨fun j => ncs.getD j [], fun j hj => ?_, fun j hj => ?_⟩
  · have hjn : j < ncs.length := by rw [h.len]; exact hj
    have e : ncs.getD j [] = ncs[j] := by simp [List.getD, hjn]
    show NodeAt wr _ a' j (ncs.getD j [])
    rw [e]
    have h5 := h.five ncs[j] (List.getElem_mem hjn)
    rcases h.row.2 with ⟨_, h0⟩ | ⟨g, cap, cur, hv, hbg, _⟩
    · exact absurd hj (by omega)
    · have hv' := hv
      injection hv' with ha _ _
      subst ha
      have hc : ∀ k u, ncs[j][k]? = some u → k < 5 → wr.cell? ⟨g, j * 5 + k, none⟩ = some u := fun k u hu hk => by
        have h1 := h.row.cells (g := g) rfl (j * 5 + k) u (by rw [flat5 ncs h.five j k hk, List.getElem?_eq_getElem hjn]; exact hu)
        rw [addr_plus, Nat.zero_add] at h1
        exact h1
      generalize ncs[j] = cs at *
      match cs, h5 with
      | [x0, x1, x2, x3, x4], _ =>
        have c0 := hc 0 x0 rfl (by omega)
        have c1 := hc 1 x1 rfl (by omega)
        have c2 := hc 2 x2 rfl (by omega)
        have c3 := hc 3 x3 rfl (by omega)
        have c4 := hc 4 x4 rfl (by omega)
        exact ⟨g, 0, x0, x1, x2, x3, x4, rfl, by omega, rfl, by simpa using c0, by simpa using c1, by simpa using c2, by simpa using c3, by simpa using c4⟩
  · have hjn : j < ncs.length := by rw [h.len]; exact hj
    have e : ncs.getD j [] = ncs[j] := by simp [List.getD, hjn]
    show NodeC wr _ ts[j] (ncs.getD j [])
    rw [e]
    exact (h.each j hjn hj).stay (fun b hP _ => hP.1) (fun _ _ _ => rfl)
def nsLen : Value → Nat
  | .slice _ n _ => n
  | _ => 0
set_option maxRecDepth 100000 in
set_option maxHeartbeats 3200000 in
theorem nodes_of (ts : List Tr) (hts : ∀ t ∈ ts, NodeOK t) : NodesOK ts := fun deep r s p q endw a n W hdp hr hm hl hw hew hne hlen => by
  obtain ⟨iv, hvi, hv0, hv1, hv2⟩ := info_parts Tryz.infoN
  have HS : Hid (NsI W r s deep q ts W 0 (.slice none 0 0) []) := ⟨rfl, Nat.zero_le _, fun x hx => by simp at hx, World.ownsRow_nil _ _ _ _, fun j h => absurd h (by simp), ⟨p, hr, by simpa using hl⟩, .refl _ _, lt_of_block hr⟩
  have HW : Hid _ := hw
  have HE : Hid _ := hew
  have HN : Hid _ := hne
  have HT : Hid _ := hts
  have hd2 : (deep : Int) ≤ 1000 := by omega
  clear hr hl hw hew hne hts
  go_enter Tryz.func29, Tryz.ntmps29
  go_wp2_with fail
  go_loopw [7] (fun x wr => ∃ (i : Nat) (ncs : List (List Value)), Hid (NsI W r s deep q ts wr i x ncs)) (fun x _ => ts.length - nsLen x)
  case atStart => exact ⟨0, [], HS⟩
  case round =>
    clear HS
    obtain ⟨i, ncs, HO⟩ := hrel
    obtain ⟨p1, hrd, hrl⟩ := HO.out.rd
    obtain ⟨a7, c7, rfl, hc7⟩ := HO.out.shape
    have HR : Hid _ := hrd
    have HRL : Hid _ := hrl
    clear hrd hrl
    obtain ⟨g0, g1, g2⟩ := row_three HR.out
    by_cases hlt : i < ts.length
    · have HD : Hid (∃ p2, RdT s deep p1 p2 ts[i] ∧ RdL s deep p2 q (ts.drop (i + 1))) := (by
        have h := HRL.out
        rw [List.drop_eq_getElem_cons hlt] at h
        cases h with
        | cons ht hl => exact ⟨_, ht, hl⟩)
      obtain ⟨p2, hx⟩ := HD.out
      have HX : Hid _ := hx
      clear hx HD HRL
      obtain ⟨a1, n1, k1, hw1, hk1⟩ := HX.out.1.first
      have HW1 : Hid _ := hw1
      have q1 : ((s.extract a1 n1).toList == endw.toList) = false := (by
        rw [beq_eq_false_iff_ne]
        intro e
        have e2 : s.extract a1 n1 = endw := by
          rw [Lib.toList_data, Lib.toList_data] at e
          cases h1 : s.extract a1 n1 with | mk d1 => cases h2 : endw with | mk d2 =>
          rw [h1, h2] at e
          simp only at e
          rw [Array.toList_inj.1 e]
        rw [e2, HN.out] at hk1
        omega)
      clear hw1 hk1
      obtain ⟨z1, HZ⟩ : ∃ z1, Hid (s.extract a1 n1 = z1) := ⟨_, rfl⟩
      rw [HZ.out] at q1
      go_wp2_with fail
      refine (next_any r s p1 a1 n1 _ _ HR.out hm HW1.out).mono ?_
      rw [HZ.out]
      rintro e w1 ⟨rfl, hb1⟩
      have HR1 : Hid (RdAt r s p1 w1) := blk_keep hb1 HR.out
      have HF1 : Hid (RFr r wr w1) := .of_below hb1
      have hs1 := hb1.size
      clear hb1
      go_wp2_with fail
      refine (HT.out ts[i] (List.getElem_mem hlt) deep r s p1 p2 w1 hdp HR1.out hm HX.out.1).mono ?_
      rintro e w2 ⟨a2, c2, rfl, hl2, hc2, hr2, hf2⟩
      have HL2 : Hid (LiesN w2 (fun b => wr.heap.size ≤ b) a2 ts[i].sub) := hl2.stay (fun b hb _ => (by omega)) (fun _ _ _ => rfl)
      have HF2 : Hid (RFr r wr w2) := HF1.out.trans hf2
      have HR2 : Hid _ := hr2
      have HRow : Hid (w2.ownsRow W.heap.size 24 5 (.slice a7 i c7) i ncs.flatten) := row_fr HO.out.row HF2.out HO.out.lt
      clear hl2 hr2 hf2
      have hws : W.heap.size ≤ w2.heap.size := Nat.le_trans HO.out.fr.size HF2.out.size
      go_wp2_with (at_builtin; refine wpList_append_where _ rfl _ _ 22 rfl W.heap.size 24 iv (.agg #[.int .i64 0, .string ⟨#[]⟩, .int .i64 0, .int .i64 0, .slice none 0 0]) 5 64 Tryz.underlying22 hvi hv0 hv1 hv2 rfl (by decide) _ i ncs.flatten rfl (HRow.out.alloc _) ⟨w2.heap.size, 0, none⟩ 1 1 [.int .i64 ts[i].id, .string ts[i].nm, .int .i64 ts[i].rep, .int .i64 ts[i].kind, .slice a2 ts[i].sub.length c2] rfl rfl five_cells (by intro u hu; simp at hu; rcases hu with rfl | rfl | rfl | rfl | rfl <;> rfl) (by unfold maxLen; omega) (by omega) (by simp; omega) (by decide) ?_; intro l' w3 hown3 hgrow3 hwh; have HOn : Hid _ := HO.out.push hlt HF2.out hc2 HL2.out HR2.out HX.out.2 hown3 hgrow3 hwh; have HLn : Hid _ := own_shape hown3)
      go_roundw
      case rel => exact ⟨i + 1, _, HOn⟩
      case measure =>
        obtain ⟨g9, c9, rfl⟩ := HLn.out
        simp [nsLen]
        omega
    · obtain rfl : i = ts.length := by have := HO.out.le; omega
      have HP : Hid (p1 = q) := (by
        have h := HRL.out
        rw [List.drop_length] at h
        cases h with
        | nil => rfl)
      have q1 : ((s.extract a n).toList == endw.toList) = true := by rw [HE.out, beq_self_eq_true]
      have HW1 : Hid (WdAt s p1 a n) := HP.out ▸ HW.out
      obtain ⟨z1, HZ⟩ : ∃ z1, Hid (s.extract a n = z1) := ⟨_, rfl⟩
      rw [HZ.out] at q1
      go_wp2_with fail
      refine (next_any r s p1 a n _ _ HR.out hm HW1.out).mono ?_
      rw [HZ.out]
      rintro e w1 ⟨rfl, hb1⟩
      have HR1 : Hid (RdAt r s q w1) := (by rw [← HP.out]; exact blk_keep hb1 HR.out)
      have HF1 : Hid (RFr r W w1) := HO.out.fr.trans (.of_below hb1)
      have HL1 : Hid (LiesN w1 (fun b => W.heap.size ≤ b) a7 ts) := HO.out.lies.keep hb1
      clear hb1
      go_wp2
      go_ret
      exact ⟨_, _, rfl, HL1.out, hc7, HR1.out, HF1.out⟩
end Go.Proofs.YtnfjpngmadoflaaGreatDoor

namespace Go.Proofs.YtnfjpngmadoflaaGreatDoor
open Go.RowKit
theorem idx_one {b : UInt8} {x : ByteArray} (h : Lib.idxOfS [⟨#[b]⟩] x = 0) : x = ⟨#[b]⟩ := by
  by_cases e : x = ⟨#[b]⟩
  · exact e
  · exfalso
    revert h
    have e2 : ¬ (⟨#[b]⟩ : ByteArray) = x := fun h => e h.symm
    simp [Lib.idxOfS, Lib.idxFromS, e2]
set_option maxRecDepth 100000 in
set_option maxHeartbeats 3200000 in
theorem takeGroup_any (r : Nat) (s : ByteArray) (q5 a6 n6 p7 a8 q : Nat) (deep : Nat) (ts : List Tr) (hok : NodesOK ts) (hd : deep < 6) (hn : ts.length ≤ 1048576) (hm : s.size ≤ 100000) (h6 : WdAt s q5 a6 n6) (h6n : a6 < n6) (h6w : Lib.idxOfS openW (s.extract a6 n6) = 0) (hl : RdL s (deep + 1) n6 p7 ts) (h8 : WdAt s p7 a8 q) (h8n : a8 < q) (h8w : Lib.idxOfS shutW (s.extract a8 q) = 0) (W : World) (hr : RdAt r s q5 W) :
    Calls Tryz.prog (61) #[.pointer (some ⟨r, 0, none⟩), .int .i64 (deep : Nat)] W fun e w' => ∃ a' c', e = .returned (.slice a' ts.length c') ∧ LiesN w' (fun b => W.heap.size ≤ b) a' ts ∧ ts.length ≤ c' ∧ RdAt r s q w' ∧ RFr r W w' := by
  have HR : Hid _ := hr
  have H6 : Hid _ := And.intro h6 (And.intro h6n h6w)
  have H8 : Hid _ := And.intro h8 (And.intro h8n h8w)
  have HL : Hid _ := hl
  have HO : Hid _ := hok
  have hrw : r < W.heap.size := lt_of_block hr
  have q0 : ((deep : Int) == 6) = false := beq_eq_false_iff_ne.2 (by omega)
  have HD1 : Hid ((deep : Int) + 1 = ((deep + 1 : Nat) : Int)) := (by show _ = _; omega)
  have hd2 : (deep : Int) ≤ 1000 := by omega
  clear hr h6 h6n h6w h8 h8n h8w hl hok
  obtain ⟨z1, HZ⟩ : ∃ z1, Hid (s.extract a6 n6 = z1) := ⟨_, rfl⟩
  go_enter Tryz.func61, Tryz.ntmps61
  go_wp2_with fail
  refine (next_any r s q5 a6 n6 _ _ HR.out hm H6.out.1).mono ?_
  rw [HZ.out]
  rintro e w1 ⟨rfl, hb1⟩
  have HR1 : Hid (RdAt r s q5 w1) := blk_keep hb1 HR.out
  have HF1 : Hid (RFr r W w1) := .of_below hb1
  clear hb1
  obtain ⟨w2, HW2⟩ : ∃ w2, Hid (w1.alloc (.cells #[.string ⟨#[123]⟩] 9) = w2) := ⟨_, rfl⟩
  have HST : Hid (StrsAt w2 w1.heap.size 0 openW) := (by
    rw [← HW2.out]
    exact strs_row (heap_alloc_new w1 _) fun j hj => (by obtain rfl : j = 0 := by simp [openW] at hj; omega
                                                         rfl))
  have HB2 : Hid (Below w1.heap.size w1 w2) := (by
    rw [← HW2.out]
    exact (Below.refl _ _).alloc (Nat.le_refl _) _)
  have HR2 : Hid (RdAt r s q5 w2) := blk_keep HB2.out HR1.out
  have HF2 : Hid (RFr r W w2) := HF1.out.trans (.of_below HB2.out)
  go_wp2_with fail
  rw [HW2.out]
  refine (takeOne_any w1.heap.size 0 1 openW 0 (by decide) r s q5 a6 n6 w2 HR2.out hm H6.out.1 H6.out.2.1 H6.out.2.2 HST.out).mono ?_
  rintro e w3 ⟨rfl, hr3, hf3⟩
  have HR3 : Hid _ := hr3
  have HF3 : Hid (RFr r W w3) := HF2.out.trans hf3
  clear hr3 hf3 HR2 HF2 HB2 HST HW2 HR1 HF1
  go_wp2_with fail
  rw [HD1.out]
  refine (HO.out (deep + 1) r s n6 p7 ⟨#[125]⟩ a8 q w3 (by omega) HR3.out hm HL.out H8.out.1 (idx_one H8.out.2.2) (by decide) hn).mono ?_
  rintro e w4 ⟨a4, c4, rfl, hl4, hc4, hr4, hf4⟩
  have HR4 : Hid _ := hr4
  have HF4 : Hid (RFr r W w4) := HF3.out.trans hf4
  have hs3 := HF3.out.size
  have HL4 : Hid (LiesN w4 (fun b => W.heap.size ≤ b) a4 ts) := hl4.stay (fun b hb _ => Nat.le_trans hs3 hb) (fun _ _ _ => rfl)
  clear hr4 hf4 hl4
  obtain ⟨w5, HW5⟩ : ∃ w5, Hid (w4.alloc (.cells #[.string ⟨#[125]⟩] 9) = w5) := ⟨_, rfl⟩
  have HST : Hid (StrsAt w5 w4.heap.size 0 shutW) := (by
    rw [← HW5.out]
    exact strs_row (heap_alloc_new w4 _) fun j hj => (by obtain rfl : j = 0 := by simp [shutW] at hj; omega
                                                         rfl))
  have HB5 : Hid (Below w4.heap.size w4 w5) := (by
    rw [← HW5.out]
    exact (Below.refl _ _).alloc (Nat.le_refl _) _)
  have HR5 : Hid (RdAt r s p7 w5) := blk_keep HB5.out HR4.out
  have HF5 : Hid (RFr r W w5) := HF4.out.trans (.of_below HB5.out)
  go_wp2_with fail
  rw [HW5.out]
  refine (takeOne_any w4.heap.size 0 1 shutW 0 (by decide) r s p7 a8 q w5 HR5.out hm H8.out.1 H8.out.2.1 H8.out.2.2 HST.out).mono ?_
  rintro e w6 ⟨rfl, hr6, hf6⟩
  have HR6 : Hid _ := hr6
  have HF6 : Hid (RFr r W w6) := HF5.out.trans hf6
  have HL6 : Hid (LiesN w6 (fun b => W.heap.size ≤ b) a4 ts) := (HL4.out.keep HB5.out).stay (fun _ h _ => h) (fun b hb hlt => hf6.keep b hlt (by omega))
  clear hr6 hf6
  go_wp2
  go_ret
  exact ⟨a4, c4, rfl, HL6.out, hc4, HR6.out, HF6.out⟩
set_option maxRecDepth 100000 in
set_option maxHeartbeats 6400000 in
theorem node_group (r : Nat) (s : ByteArray) (p q5 q : Nat) (id : Int) (nm : ByteArray) (rep : Nat) (deep : Nat) (ts : List Tr) (W : World) (hr : RdAt r s p W) (hm : s.size ≤ 100000) (hh : HdAt s p q5 id nm rep 0) (hrep : rep ≤ 100)
    (hg : ∀ W : World, RdAt r s q5 W → Calls Tryz.prog (61) #[.pointer (some ⟨r, 0, none⟩), .int .i64 (deep : Nat)] W fun e w' => ∃ a' c', e = .returned (.slice a' ts.length c') ∧ LiesN w' (fun b => W.heap.size ≤ b) a' ts ∧ ts.length ≤ c' ∧ RdAt r s q w' ∧ RFr r W w') :
    Calls Tryz.prog (46) #[.pointer (some ⟨r, 0, none⟩), .int .i64 (deep : Nat)] W fun e w' => ∃ a' c', e = .returned (.agg #[.int .i64 id, .string nm, .int .i64 (rep + 1 : Nat), .int .i64 (0 : Nat), .slice a' ts.length c']) ∧ LiesN w' (fun b => W.heap.size ≤ b) a' ts ∧ ts.length ≤ c' ∧ RdAt r s q w' ∧ RFr r W w' := by
  obtain ⟨a1, n1, a2, n2, a3, n3, a4, d, ⟨u1, v1, x1⟩, ⟨u2, v2, x2⟩, ⟨u3, v3, rfl, x3⟩, ⟨u4, v4, x4, y4⟩⟩ := hh.ex
  have hrw : r < W.heap.size := lt_of_block hr
  obtain ⟨w0, HW0, HX, HY, HB⟩ := two_boxesS W #[.int .i64 0, .string ⟨#[]⟩, .int .i64 0, .int .i64 0, .slice none 0 0] #[.int .i64 0, .string ⟨#[]⟩, .int .i64 0, .int .i64 0, .slice none 0 0] 24 24
  have HI0 : Hid (NdI W r s p (.int .i64 0) (.string ⟨#[]⟩) (.int .i64 0) (.int .i64 0) (.slice none 0 0) w0) := ⟨blk_keep HB.out hr, HX.out, HY.out, .of_below HB.out, hrw⟩
  have U1 : Hid _ := And.intro u1 (And.intro v1 x1)
  have U2 : Hid _ := And.intro u2 (And.intro v2 x2)
  have U3 : Hid _ := And.intro u3 (And.intro v3 x3)
  have U4 : Hid _ := And.intro u4 (And.intro v4 (And.intro x4 y4))
  have HG : Hid _ := hg
  clear u1 v1 x1 u2 v2 x2 u3 v3 x3 u4 v4 x4 y4 hg hr hh HX HY HB hrw
  obtain ⟨z, HZ⟩ : ∃ z, Hid (s.extract a3 n3 = z) := ⟨_, rfl⟩
  go_enter Tryz.func46, Tryz.ntmps46
  go_wp2_with fail
  rw [HW0.out]
  refine (repWords_any w0).mono ?_
  rintro e w1 ⟨rfl, hst, hb1⟩
  have HI1 : Hid _ := HI0.out.keep hb1
  have HST : Hid _ := hst
  clear hst hb1 HI0
  go_wp2_with fail
  refine (takeOne_any w0.heap.size 0 3 repW rep (by decide) r s p a1 n1 w1 HI1.out.rd hm U1.out.1 U1.out.2.1 U1.out.2.2 HST.out).mono ?_
  rintro e w2 ⟨rfl, hr2, hf2⟩
  have HI2 : Hid _ := HI1.out.step hr2 hf2
  clear hr2 hf2 HI1 HST
  obtain ⟨⟨p0, p1, p2, p3, p4⟩, f0, f1, f2, f3, f4⟩ := row_five HI2.out.nd
  have HI3 : Hid (NdI W r s n1 (.int .i64 0) (.string ⟨#[]⟩) (.int .i64 (1 + (rep : Nat))) (.int .i64 0) (.slice none 0 0) (w2.setCell ⟨W.heap.size + 1, 2, none⟩ (.int .i64 (1 + (rep : Nat))))) := HI2.out.set 2 _ rfl
  go_wp2_with fail
  refine (kindWords_any _).mono ?_
  rintro e w3 ⟨rfl, hst, hb3⟩
  have HI4 : Hid _ := HI3.out.keep hb3
  have HST : Hid (StrsAt w3 w2.heap.size 0 kindW) := (by show StrsAt _ _ _ _; simpa using hst)
  clear hst hb3 HI3 HI2 p0 p1 p2 p3 p4 f0 f1 f2 f3 f4
  go_wp2_with fail
  refine (takeOne_any w2.heap.size 0 6 kindW 0 (by decide) r s n1 a2 n2 w3 HI4.out.rd hm U2.out.1 U2.out.2.1 U2.out.2.2 HST.out).mono ?_
  rintro e w4 ⟨rfl, hr4, hf4⟩
  have HI5 : Hid _ := HI4.out.step hr4 hf4
  clear hr4 hf4 HI4 HST
  obtain ⟨⟨p0, p1, p2, p3, p4⟩, f0, f1, f2, f3, f4⟩ := row_five HI5.out.nd
  have HI6 : Hid (NdI W r s n2 (.int .i64 0) (.string ⟨#[]⟩) (.int .i64 (1 + (rep : Nat))) (.int .i64 (0 : Nat)) (.slice none 0 0) (w4.setCell ⟨W.heap.size + 1, 3, none⟩ (.int .i64 (0 : Nat)))) := HI5.out.set 3 _ rfl
  go_wp2_with fail
  refine (take_letters r s n2 a3 n3 _ HI6.out.rd hm U3.out.1 U3.out.2.1 U3.out.2.2).mono ?_
  rw [HZ.out]
  rintro e w5 ⟨rfl, hr5, hf5⟩
  have HI7 : Hid _ := HI6.out.step hr5 hf5
  clear hr5 hf5 HI6 HI5 p0 p1 p2 p3 p4 f0 f1 f2 f3 f4
  obtain ⟨⟨p0, p1, p2, p3, p4⟩, f0, f1, f2, f3, f4⟩ := row_five HI7.out.nd
  have HI8 : Hid (NdI W r s n3 (.int .i64 0) (.string z) (.int .i64 (1 + (rep : Nat))) (.int .i64 (0 : Nat)) (.slice none 0 0) (w5.setCell ⟨W.heap.size + 1, 1, none⟩ (.string z))) := HI7.out.set 1 _ rfl
  go_wp2_with fail
  refine (takeID_any r s n3 a4 q5 _ HI8.out.rd hm U4.out.1 U4.out.2.1 d U4.out.2.2.1 id U4.out.2.2.2).mono ?_
  rintro e w6 ⟨rfl, hr6, hf6⟩
  have HI9 : Hid _ := HI8.out.step hr6 hf6
  clear hr6 hf6 HI8 HI7 p0 p1 p2 p3 p4 f0 f1 f2 f3 f4
  obtain ⟨⟨p0, p1, p2, p3, p4⟩, f0, f1, f2, f3, f4⟩ := row_five HI9.out.nd
  have HI10 : Hid (NdI W r s q5 (.int .i64 id) (.string z) (.int .i64 (1 + (rep : Nat))) (.int .i64 (0 : Nat)) (.slice none 0 0) (w6.setCell ⟨W.heap.size + 1, 0, none⟩ (.int .i64 id))) := HI9.out.set 0 _ rfl
  go_wp2_with fail
  refine (HG.out _ HI10.out.rd).mono ?_
  rintro e w8 ⟨a8, c8, rfl, hl8, hc8, hr8, hf8⟩
  have HI12 : Hid _ := HI10.out.step hr8 hf8
  have hsz : W.heap.size + 2 ≤ (w6.setCell ⟨W.heap.size + 1, 0, none⟩ (.int .i64 id)).heap.size := lt_of_block HI10.out.nd
  have HL8 : Hid (LiesN w8 (fun b => W.heap.size + 2 ≤ b) a8 ts) := hl8.stay (fun b hb _ => Nat.le_trans hsz hb) (fun _ _ _ => rfl)
  clear hr8 hf8 hl8 hsz HI10 HI9 p0 p1 p2 p3 p4 f0 f1 f2 f3 f4
  obtain ⟨⟨p0, p1, p2, p3, p4⟩, y0, y1, y2, y3, y4⟩ := row_five HI12.out.nd
  have HI13 : Hid (NdI W r s q (.int .i64 id) (.string z) (.int .i64 (1 + (rep : Nat))) (.int .i64 (0 : Nat)) (.slice a8 ts.length c8) (w8.setCell ⟨W.heap.size + 1, 4, none⟩ (.slice a8 ts.length c8))) := HI12.out.set 4 _ rfl
  have HL9 : Hid (LiesN (w8.setCell ⟨W.heap.size + 1, 4, none⟩ (.slice a8 ts.length c8)) (fun b => W.heap.size + 2 ≤ b) a8 ts) := HL8.out.stay (fun _ h _ => h) (fun b h _ => Below.heap_setCell _ _ _ _ (by show b ≠ W.heap.size + 1; omega))
  obtain ⟨⟨z0, z1, z2, z3, z4⟩, f0, f1, f2, f3, f4⟩ := row_five HI12.out.re
  go_wp2
  have hE : (1 + ((rep : Nat) : Int)) = ((rep + 1 : Nat) : Int) := by omega
  have hlt := HI13.out.lt
  refine bodyPost_ret (v := .agg #[.int .i64 id, .string z, .int .i64 (1 + ((rep : Nat) : Int)), .int .i64 (0 : Nat), .slice a8 ts.length c8]) (results_cell_row Tryz.results46 _ _ W.heap.size 24 #[.int .i64 id, .string z, .int .i64 (1 + ((rep : Nat) : Int)), .int .i64 (0 : Nat), .slice a8 ts.length c8] (0, 0) _ rfl (row_setC (row_setC (row_setC (row_setC (row_setC HI13.out.re))))) Tryz.underlying24 rfl (by kernel_rfl)) rfl ⟨a8, c8, by rw [hE, HZ.out], ?_, hc8, (Below.heap_setCell _ ⟨W.heap.size, 4, none⟩ _ r (by show r ≠ W.heap.size; omega)).trans ((Below.heap_setCell _ ⟨W.heap.size, 3, none⟩ _ r (by show r ≠ W.heap.size; omega)).trans ((Below.heap_setCell _ ⟨W.heap.size, 2, none⟩ _ r (by show r ≠ W.heap.size; omega)).trans ((Below.heap_setCell _ ⟨W.heap.size, 1, none⟩ _ r (by show r ≠ W.heap.size; omega)).trans ((Below.heap_setCell _ ⟨W.heap.size, 0, none⟩ _ r (by show r ≠ W.heap.size; omega)).trans HI13.out.rd)))), ((((HI13.out.fr.setNew (Nat.le_refl _)).setNew (Nat.le_refl _)).setNew (Nat.le_refl _)).setNew (Nat.le_refl _)).setNew (Nat.le_refl _)⟩
  refine HL9.out.stay (fun b h _ => by omega) (fun b h _ => ?_)
  have hb : b ≠ W.heap.size := by omega
  rw [Below.heap_setCell _ _ _ _ hb, Below.heap_setCell _ _ _ _ hb, Below.heap_setCell _ _ _ _ hb, Below.heap_setCell _ _ _ _ hb, Below.heap_setCell _ _ _ _ hb]
/-- A node is read, if its nodes are. -/
theorem node_of (t : Tr) (h : NodesOK t.sub) : NodeOK t := fun deep r s p q W hdp hr hm ht => by
  cases ht with
  | leaf hh hrep hkind hk0 h5 h5n h5w =>
    refine (node_leaf r s p _ q _ _ _ _ deep W hr hm hh hrep hkind hk0 _ h5 h5n h5w).mono ?_
    rintro e w' ⟨rfl, h1, h2⟩
    exact ⟨none, 0, rfl, ⟨fun _ => [], fun j hj => absurd hj (Nat.not_lt_zero _), fun j hj => absurd hj (Nat.not_lt_zero _)⟩, Nat.le_refl _, h1, h2⟩
  | group hh hrep hd hn h6 h6n h6w hl h8 h8n h8w =>
    exact node_group r s p _ q _ _ _ deep _ W hr hm hh hrep fun W' hr' => takeGroup_any r s _ _ _ _ _ q deep _ h hd hn hm h6 h6n h6w hl h8 h8n h8w W' hr'
theorem node_ok : ∀ (n : Nat) (t : Tr), SizeOf.sizeOf t < n → NodeOK t
  | 0, t, h => absurd h (Nat.not_lt_zero _)
  | n + 1, t, hsz => node_of t (nodes_of _ fun x hx => by
      obtain ⟨j, hj, rfl⟩ := List.getElem_of_mem hx
      exact node_ok n _ (by have := t.sub_size j hj; omega))
theorem nodes_ok (ts : List Tr) : NodesOK ts := nodes_of ts fun t _ => node_ok (SizeOf.sizeOf t + 1) t (by omega)
end Go.Proofs.YtnfjpngmadoflaaGreatDoor

namespace Go.Proofs.YtnfjpngmadoflaaGreatDoor
open Go.RowKit
theorem Tryz.infoBd : (Tryz.prog.info? 77).map (fun i => i.size) = some 2 := by kernel_rfl
theorem Tryz.infoU8 : (Tryz.prog.info? 5).map (fun i => (i.zero, i.size, i.bytes)) = some (some (.int .u8 0), 1, 1) := by kernel_rfl
theorem Tryz.liesBd : liesAt Tryz.prog Tryz.prog.depth 77 (2 / Tryz.prog.cellsOf 77) 0 77 1 = true := by kernel_rfl
set_option maxHeartbeats 1600000 in
set_option maxRecDepth 100000 in
theorem copyCheck_used (b : Nat) (w : World) (h0 : w.cell? ⟨b, 0, none⟩ = some (.pointer (some ⟨b, 0, none⟩))) :
    Calls Tryz.prog (62) #[.pointer (some ⟨b, 0, none⟩)] w fun e w' => e = .returned (.tuple #[]) ∧ w' = w := by
  obtain ⟨j, hj, _⟩ := Option.map_eq_some_iff.1 Tryz.infoBd
  go_enter Tryz.func62, Tryz.ntmps62
  go_wp2
  rw [Lib.run_neq_ptr_same w _ Tryz.underlying74 hj]
  go_wp2
  go_end0
  exact ⟨rfl, rfl⟩
set_option maxHeartbeats 1600000 in
set_option maxRecDepth 100000 in
theorem copyCheck_fresh (b : Nat) (w : World) (h0 : w.cell? ⟨b, 0, none⟩ = some (.pointer none)) (hsh : w.shape? b = some (77, 2)) (hfz : w.frozen? ⟨b, 0, none⟩ = false) :
    Calls Tryz.prog (62) #[.pointer (some ⟨b, 0, none⟩)] w fun e w' => e = .returned (.tuple #[]) ∧ w' = w.setCell ⟨b, 0, none⟩ (.pointer (some ⟨b, 0, none⟩)) := by
  obtain ⟨j, hj, hjs⟩ := Option.map_eq_some_iff.1 Tryz.infoBd
  go_enter Tryz.func62, Tryz.ntmps62
  go_wp2
  rw [Lib.run_to_unsafe w ⟨b, 0, none⟩ Tryz.underlying74 Tryz.underlying99 hj (by rw [hjs]; decide) hsh (Nat.zero_lt_succ 1)]
  simp only [Result.andThen]
  rw [Oper.upon_value]
  go_wp2
  rw [run_callFunc_extern Tryz.func74 (by kernel_rfl) (by kernel_rfl) (by kernel_rfl) (e := Extern.AbiNoEscape.same) (by kernel_rfl)]
  rw [Lib.run_noEscape]
  simp only [Result.andThen]
  rw [Oper.upon_value]
  go_wp2
  rw [Lib.run_from_unsafe w ⟨b, 0, none⟩ Tryz.underlying99 Tryz.underlying74 hj hsh Tryz.liesBd]
  simp only [Result.andThen]
  rw [Oper.upon_value]
  go_wp2
  go_end0
  exact ⟨rfl, rfl⟩
theorem copyCheck_any (B b : Nat) (bs : List Value) (w : World) (h : Lib.IsBuilder 77 5 B b bs w) :
    Calls Tryz.prog (62) #[.pointer (some ⟨b, 0, none⟩)] w fun e w' => e = .returned (.tuple #[]) ∧ (Lib.BuilderAt 77 5 B b (.pointer (some ⟨b, 0, none⟩)) bs w' ∧ Below B w w' ∧ ∀ k, k ≠ b → w'.heap[k]? = w.heap[k]?) := by
  rcases h with h | h
  · refine (copyCheck_fresh b w h.cell0 h.shape h.frozen0).mono ?_
    rintro e w' ⟨rfl, rfl⟩
    exact ⟨rfl, h.used _, (Below.refl B w).setCell (p := ⟨b, 0, none⟩) h.1 _, fun k hk => Below.heap_setCell _ _ _ _ hk⟩
  · refine (copyCheck_used b w h.cell0).mono ?_
    rintro e w' ⟨rfl, rfl⟩
    exact ⟨rfl, h, Below.refl B _, fun _ _ => rfl⟩
set_option maxHeartbeats 3200000 in
set_option maxRecDepth 100000 in
theorem writeString_any (B b : Nat) (bs : List Value) (s : ByteArray) (w : World) (h : Lib.IsBuilder 77 5 B b bs w) (hlen : bs.length + s.size ≤ 140737488355328) (hBw : B ≤ w.heap.size) :
    Calls Tryz.prog (47) #[.pointer (some ⟨b, 0, none⟩), .string s] w fun e w' => e = .returned (.tuple #[.int .i64 s.size, .nilIface]) ∧ (Lib.BuilderAt 77 5 B b (.pointer (some ⟨b, 0, none⟩)) (bs ++ Lib.strCells s) w' ∧ Below B w w' ∧ (∀ k cs T f, k ≠ b → T ≠ 5 → w.heap[k]? = some (.cells cs T f) → w'.heap[k]? = some (.cells cs T f))) := by
  obtain ⟨i0, hi, hz0, hz1, hz2⟩ := info_parts Tryz.infoU8
  go_enter Tryz.func47, Tryz.ntmps47
  go_wp2_with fail
  refine (copyCheck_any B b bs _ h).mono ?_
  rintro e w1 ⟨rfl, h1, hb1, hk1⟩
  have HK1 : Hid _ := hk1
  clear hk1
  obtain ⟨hB, v, hbk, hown, hne⟩ := h1
  have c0 : w1.cell? ⟨b, 0, none⟩ = some (.pointer (some ⟨b, 0, none⟩)) := by rw [Lib.cell_of_heap hbk]; rfl
  have c1 : w1.cell? ⟨b, 1, none⟩ = some v := by rw [Lib.cell_of_heap hbk]; rfl
  go_wp2_with (at_builtin; refine Lib.wpList_append_own_string _ rfl _ _ 75 9 rfl B 5 i0 Tryz.underlying75 Tryz.underlying9 hi hz0 hz1 hz2 _ _ _ rfl hown s rfl ?c3 ?c4 ?c5 ?_)
  case c3 => unfold maxLen; omega
  case c4 => omega
  case c5 => have := hb1.size; omega
  intro v' w2 hown' hgrow _
  have hlt : b < w1.heap.size := lt_of_block hbk
  have hb2 : w2.heap[b]? = some (.cells #[.pointer (some ⟨b, 0, none⟩), v] 77 (0, 0)) := by
    rw [hgrow.block b hlt (fun e => hne e.symm)]
    exact hbk
  have d0 : w2.cell? ⟨b, 0, none⟩ = some (.pointer (some ⟨b, 0, none⟩)) := by rw [Lib.cell_of_heap hb2]; rfl
  have d1 : w2.cell? ⟨b, 1, none⟩ = some v := by rw [Lib.cell_of_heap hb2]; rfl
  have f1 : w2.frozen? ⟨b, 1, none⟩ = false := Lib.frozen_of_heap hb2 1
  obtain ⟨ao, n', cap, rfl⟩ : ∃ ao n' cap, v' = .slice ao n' cap := by
    rcases hown'.2 with ⟨hv, _⟩ | ⟨g, cap, cur, hv, _⟩
    · exact ⟨_, _, _, hv⟩
    · exact ⟨_, _, _, hv⟩
  go_wp2
  go_ret2
  refine ⟨rfl, ?_, ?_, fun k cs T f hkb hT hk => ?_⟩
  · exact Lib.BuilderAt.put (T := 77) (e := 5) hB hb2 (bs' := bs ++ Lib.strCells s) (by simpa [Lib.strCells_length] using hown') (by decide)
  · exact (hb1.grown hgrow (by have := hb1.size; omega) (fun k hk => (hown.lt k hk).1)).setCell (p := ⟨b, 1, none⟩) hB _
  · have hk2 : w1.heap[k]? = some (.cells cs T f) := (HK1.out k hkb).trans hk
    rw [Below.heap_setCell _ _ _ _ hkb, hgrow.block k (lt_of_block hk2) (fun e => ?_)]
    · exact hk2
    · rcases hown.2 with ⟨hv, _⟩ | ⟨g, cap, cur, hv, hg1, hg2, _⟩
      · rw [hv] at e
        simp [Value.ownBlock] at e
      · rw [hv] at e
        simp only [Value.ownBlock, Option.some.injEq] at e
        subst e
        rw [hg2] at hk2
        injection hk2 with hk2
        injection hk2 with _ hk3 _
        exact hT hk3.symm
theorem bd_keep {T e B b : Nat} {p : Value} {bs : List Value} {w w' : World} (h : Lib.BuilderAt T e B b p bs w) (hb : Below w.heap.size w w') : Lib.BuilderAt T e B b p bs w' := by
  obtain ⟨hB, v, hbk, hown, hne⟩ := h
  exact ⟨hB, v, blk_keep hb hbk, ow_kept hown hb, hne⟩
theorem isb_keep {T e B b : Nat} {bs : List Value} {w w' : World} (h : Lib.IsBuilder T e B b bs w) (hb : Below w.heap.size w w') : Lib.IsBuilder T e B b bs w' := h.elim (fun h => .inl (bd_keep h hb)) (fun h => .inr (bd_keep h hb))
end Go.Proofs.YtnfjpngmadoflaaGreatDoor
