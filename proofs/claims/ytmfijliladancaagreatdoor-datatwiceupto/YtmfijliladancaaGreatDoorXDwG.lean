/-
  The reader of a record's text: what its loops hold; what follows a field, an element.
-/
import Derived.Test.YtmfijliladancaaGreatDoorXDwW
import Derived.Test.YtmfijliladancaaGreatDoorXOwnDt
namespace Go.Proofs.YtmfijliladancaaGreatDoor
open Go.RowKit
/-- What reading a datum as if its node were Required promises. -/
def RdO (t : Tr) (y : Dt) : Prop := ∀ (r : Nat) (s : ByteArray) (p : Nat) (xa : Option Addr) (xc : Nat) (W : World), Rdd r s p W → s.size ≤ 100000 → Wo s p (tx true t y) → p ≤ s.size → dgB (nx s (p + (tx true t y).length)) = false → TabR r W → LiesN W (fun k => k ≠ r) xa t.sub →
  Calls Tryz.prog (33) #[.pointer (some ⟨r, 0, none⟩), nodeV t xa xc] W fun e w' => ∃ al cl af cf, e = .returned (datumV y al cl af cf) ∧ LiesD w' (fun b => W.heap.size ≤ b) al y.l ∧ LiesD w' (fun b => W.heap.size ≤ b) af y.f ∧ Rdd r s (p + (tx true t y).length) w' ∧ RFr r W w'
/-- .. a node's datum. -/
def RdN (t : Tr) (y : Dt) : Prop := ∀ (r : Nat) (s : ByteArray) (p : Nat) (xa : Option Addr) (xc : Nat) (W : World), Rdd r s p W → s.size ≤ 100000 → Wo s p (tx false t y) → p ≤ s.size → dgB (nx s (p + (tx false t y).length)) = false → TabR r W → LiesN W (fun k => k ≠ r) xa t.sub →
  Calls Tryz.prog (18) #[.pointer (some ⟨r, 0, none⟩), nodeV t xa xc] W fun e w' => ∃ al cl af cf, e = .returned (datumV y al cl af cf) ∧ LiesD w' (fun b => W.heap.size ≤ b) al y.l ∧ LiesD w' (fun b => W.heap.size ≤ b) af y.f ∧ Rdd r s (p + (tx false t y).length) w' ∧ RFr r W w'
theorem LiesN.rf {W w : World} {r : Nat} {a : Option Addr} {ts : List Tr} (h : LiesN W (fun k => k ≠ r) a ts) (hf : RFr r W w) : LiesN w (fun k => k ≠ r) a ts := h.stay (fun _ h _ => h) (fun k hk hl => hf.keep k hl hk)
theorem own_box {w w' : World} {B e sz n g e2 : Nat} {v : Value} {xs : List Value} {cs : Array Value} {z : Nat × Nat} (hown : w.ownsRow B e sz v n xs) (h : w.heap[g]? = some (.cells cs e2 z)) (hne : e2 ≠ e) (hg : w.grownBy w' v.ownBlock) : w'.heap[g]? = some (.cells cs e2 z) := by
  refine (hg.block g (lt_of_block h) (fun e3 => ?_)).trans h
  rcases hown.2 with ⟨rfl, _⟩ | ⟨g9, cap, cur, rfl, _, hg9, _⟩
  · simp [Value.ownBlock] at e3
  · simp [Value.ownBlock] at e3
    subst e3
    rw [hg9] at h
    injection h with h
    injection h with _ h _
    exact hne h.symm
/-- What the loops keep. -/
structure DgI (W : World) (r : Nat) (ds : List Dt) (wr : World) (i : Nat) (l : Value) (ncs : List (List Value)) : Prop where
  len : ncs.length = i
  le : i ≤ ds.length
  six : ∀ x ∈ ncs, x.length = 6
  row : wr.ownsRow W.heap.size 29 6 l i ncs.flatten
  each : ∀ j (h : j < ncs.length) (h' : j < ds.length), DtC wr (fun b => W.heap.size ≤ b ∧ l.ownBlock ≠ some b) ds[j] ncs[j]
  fr : RFr r W wr
  lt : r < W.heap.size
theorem DgI.start {W wr : World} {r : Nat} (ds : List Dt) (hf : RFr r W wr) (hr : r < W.heap.size) : DgI W r ds wr 0 (.slice none 0 0) [] := ⟨rfl, Nat.zero_le _, fun x hx => by simp at hx, World.ownsRow_nil _ _ _ _, fun j h => absurd h (by simp), hf, hr⟩
theorem DgI.shape {W : World} {r : Nat} {ds : List Dt} {wr : World} {i : Nat} {l : Value} {ncs : List (List Value)} (h : DgI W r ds wr i l ncs) : ∃ a' c', l = .slice a' i c' := by
  rcases h.row.2 with ⟨rfl, rfl⟩ | ⟨g, cap, cur, rfl, _⟩
  · exact ⟨none, 0, rfl⟩
  · exact ⟨_, cap, rfl⟩
/-- The reader goes on; nothing of the row turns. -/
theorem DgI.go {W : World} {r : Nat} {ds : List Dt} {wr w1 : World} {i : Nat} {l : Value} {ncs : List (List Value)} (h : DgI W r ds wr i l ncs) (hf : RFr r wr w1) : DgI W r ds w1 i l ncs := by
  have hlt := h.lt
  exact ⟨h.len, h.le, h.six, row_rf h.row hf h.lt, fun j hj hj' => (h.each j hj hj').stay (fun _ h _ => h) (fun b hb hl => hf.keep b hl (by omega)), h.fr.trans hf, h.lt⟩
theorem DgI.push {W : World} {r : Nat} {ds : List Dt} {wr w1 w2 : World} {i : Nat} {l l' : Value} {ncs : List (List Value)} {al af : Option Addr} {cl cf : Nat} (h : DgI W r ds wr i l ncs) (hi : i < ds.length) (hf : RFr r wr w1) (hll : LiesD w1 (fun b => wr.heap.size ≤ b) al ds[i].l) (hlf : LiesD w1 (fun b => wr.heap.size ≤ b) af ds[i].f) {ob : Obj}
    (hown : w2.ownsRow W.heap.size 29 6 l' (i + 1) (ncs.flatten ++ [.bool ds[i].no, .int .i64 ds[i].v.k, .int .i64 ds[i].v.n, .string ds[i].v.s, .slice al ds[i].l.length cl, .slice af ds[i].f.length cf])) (hg : (w1.alloc ob).grownBy w2 l.ownBlock) (hw : l'.ownBlock = l.ownBlock ∧ l.ownBlock ≠ none ∨ l'.ownBlock = some (w1.alloc ob).heap.size) :
    DgI W r ds w2 (i + 1) l' (ncs ++ [[.bool ds[i].no, .int .i64 ds[i].v.k, .int .i64 ds[i].v.n, .string ds[i].v.s, .slice al ds[i].l.length cl, .slice af ds[i].f.length cf]]) := by
  have hrs := h.fr.size
  have hbs := hf.size
  have hgs := hg.size
  simp only [World.size_alloc] at hgs
  have hlt := h.lt
  have hlb : ∀ k, l.ownBlock = some k → W.heap.size ≤ k ∧ k < wr.heap.size := fun k hk => h.row.lt k hk
  have hS2 : ∀ b, b < w1.heap.size → some b ≠ l.ownBlock → w2.heap[b]? = w1.heap[b]? := fun b hb hne => by
    rw [hg.block b (by simp; omega) hne, heap_alloc_old w1 ob hb]
  refine ⟨by rw [List.length_append, h.len]; rfl, hi, fun x hx => ?_, ?_, fun j hj hj' => ?_, (rfr_grow (h.fr.trans hf) hg (fun k hk => (hlb k hk).1)).1, hlt⟩
  · rcases List.mem_append.1 hx with hx | hx
    · exact h.six x hx
    · rw [List.mem_singleton.1 hx]; rfl
  · rw [List.flatten_append]
    simp only [List.flatten_cons, List.flatten_nil, List.append_nil]
    exact hown
  · by_cases hjl : j < ncs.length
    · rw [List.getElem_append_left hjl]
      have hQ : ∀ b, (W.heap.size ≤ b ∧ l.ownBlock ≠ some b) → b < wr.heap.size → (W.heap.size ≤ b ∧ l'.ownBlock ≠ some b) := fun b hP hlt => by
        refine ⟨hP.1, ?_⟩
        rcases hw with ⟨e, _⟩ | e
        · rw [e]; exact hP.2
        · rw [e]; simp; omega
      have hS : ∀ b, (W.heap.size ≤ b ∧ l.ownBlock ≠ some b) → b < wr.heap.size → w2.heap[b]? = wr.heap[b]? := fun b hP hb => by
        rw [hS2 b (by omega) (fun e => hP.2 e.symm), hf.keep b hb (by omega)]
      exact (h.each j hjl hj').stay hQ hS
    · have hje : j = ncs.length := by rw [List.length_append] at hj; simp at hj; omega
      have hji : j = i := by rw [hje, h.len]
      subst hji
      have ee : (ncs ++ [[.bool ds[j].no, .int .i64 ds[j].v.k, .int .i64 ds[j].v.n, .string ds[j].v.s, .slice al ds[j].l.length cl, .slice af ds[j].f.length cf]])[j] = [.bool ds[j].no, .int .i64 ds[j].v.k, .int .i64 ds[j].v.n, .string ds[j].v.s, .slice al ds[j].l.length cl, .slice af ds[j].f.length cf] := by
        rw [List.getElem_append_right (by omega)]
        simp
      rw [ee]
      have hQ : ∀ b, wr.heap.size ≤ b → b < w1.heap.size → (W.heap.size ≤ b ∧ l'.ownBlock ≠ some b) := fun b hP hlt => by
        refine ⟨by omega, ?_⟩
        rcases hw with ⟨e, hne⟩ | e
        · rw [e]
          intro e2
          have := (hlb b e2).2
          omega
        · rw [e]; simp; omega
      have hS : ∀ b, wr.heap.size ≤ b → b < w1.heap.size → w2.heap[b]? = w1.heap[b]? := fun b hP hb => hS2 b hb (fun e => by have := (hlb b e.symm).2; omega)
      exact DtC.join cl cf (hll.stay hQ hS) (hlf.stay hQ hS)
/-- The data lie in the row. -/
theorem DgI.lies {W : World} {r : Nat} {ds : List Dt} {wr : World} {a' : Option Addr} {c' : Nat} {ncs : List (List Value)} (h : DgI W r ds wr ds.length (.slice a' ds.length c') ncs) : LiesD wr (fun b => W.heap.size ≤ b) a' ds := by
  refine ⟨fun j => ncs.getD j [], fun j hj => ?_, fun j hj => ?_⟩
  · have hjn : j < ncs.length := by rw [h.len]; exact hj
    have e : ncs.getD j [] = ncs[j] := by simp [List.getD, hjn]
    show DtAt wr _ a' j (ncs.getD j [])
    rw [e]
    have h6 := h.six ncs[j] (List.getElem_mem hjn)
    rcases h.row.2 with ⟨_, h0⟩ | ⟨g, cap, cur, hv, hbg, _⟩
    · exact absurd hj (by omega)
    · have hv' := hv
      injection hv' with ha _ _
      subst ha
      have hc : ∀ k u, ncs[j][k]? = some u → k < 6 → wr.cell? ⟨g, j * 6 + k, none⟩ = some u := fun k u hu hk => by
        have h1 := h.row.cells (g := g) rfl (j * 6 + k) u (by rw [flat6 ncs h.six j k hk, List.getElem?_eq_getElem hjn]; exact hu)
        rw [addr_plus, Nat.zero_add] at h1
        exact h1
      generalize ncs[j] = cs at *
      match cs, h6 with
      | [x0, x1, x2, x3, x4, x5], _ =>
        have c0 := hc 0 x0 rfl (by omega)
        have c1 := hc 1 x1 rfl (by omega)
        have c2 := hc 2 x2 rfl (by omega)
        have c3 := hc 3 x3 rfl (by omega)
        have c4 := hc 4 x4 rfl (by omega)
        have c5 := hc 5 x5 rfl (by omega)
        exact ⟨g, 0, x0, x1, x2, x3, x4, x5, rfl, by omega, rfl, by simpa using c0, by simpa using c1, by simpa using c2, by simpa using c3, by simpa using c4, by simpa using c5⟩
  · have hjn : j < ncs.length := by rw [h.len]; exact hj
    have e : ncs.getD j [] = ncs[j] := by simp [List.getD, hjn]
    show DtC wr _ ds[j] (ncs.getD j [])
    rw [e]
    exact (h.each j hjn hj).stay (fun b hP _ => hP.1) (fun _ _ _ => rfl)
/-! What follows. -/
theorem gT_pre (ts : List Tr) (us : List (List UInt8)) (i : Nat) : ∀ n, i ≤ n → ∃ rest, gT ts us n = gT ts us i ++ rest ∧ (rest = [] ∧ i = n ∨ ∃ c t, rest = c :: t ∧ (c = 123 ∨ c = 44))
  | 0, h => by
    obtain rfl : i = 0 := by omega
    exact ⟨[], by simp, .inl ⟨rfl, rfl⟩⟩
  | n + 1, h => by
    by_cases e : i = n + 1
    · subst e
      exact ⟨[], by simp, .inl ⟨rfl, rfl⟩⟩
    · obtain ⟨rest, h1, h2⟩ := gT_pre ts us i n (by omega)
      refine ⟨rest ++ ((if n = 0 then [123] else [44]) ++ (ts.getD n default).nm.data.toList ++ [58] ++ us.getD n []), by rw [gT, h1]; simp only [List.append_assoc], .inr ?_⟩
      rcases h2 with ⟨rfl, rfl⟩ | ⟨c, t, rfl, hc⟩
      · by_cases hz : i = 0
        · rw [if_pos hz]
          exact ⟨123, _, rfl, .inl rfl⟩
        · rw [if_neg hz]
          exact ⟨44, _, rfl, .inr rfl⟩
      · exact ⟨c, _, rfl, hc⟩
/-- Behind so many fields comes no digit. -/
theorem gT_after (ts : List Tr) (us : List (List UInt8)) (i n : Nat) (h : i ≤ n) : ∃ c t, gT ts us n ++ [125] = gT ts us i ++ (c :: t) ∧ dgB c = false := by
  obtain ⟨rest, h1, h2⟩ := gT_pre ts us i n h
  rcases h2 with ⟨rfl, rfl⟩ | ⟨c, t, rfl, hc⟩
  · exact ⟨125, [], rfl, by decide⟩
  · exact ⟨c, t ++ [125], by rw [h1, List.append_assoc]; rfl, by rcases hc with rfl | rfl <;> decide⟩
theorem lT_pre (us : List (List UInt8)) (i : Nat) (hi : 0 < i) : ∀ n, i ≤ n → ∃ rest, lT us n = lT us i ++ rest ∧ (rest = [] ∧ i = n ∨ i < n ∧ ∃ t, rest = 44 :: t)
  | 0, h => absurd h (by omega)
  | n + 1, h => by
    by_cases e : i = n + 1
    · subst e
      exact ⟨[], by simp, .inl ⟨rfl, rfl⟩⟩
    · obtain ⟨rest, h1, h2⟩ := lT_pre us i hi n (by omega)
      refine ⟨rest ++ ((if n = 0 then [] else [44]) ++ us.getD n []), by rw [lT, h1]; simp only [List.append_assoc], .inr ⟨by omega, ?_⟩⟩
      rcases h2 with ⟨rfl, rfl⟩ | ⟨_, t, rfl⟩
      · rw [if_neg (by omega)]
        exact ⟨_, rfl⟩
      · exact ⟨_, rfl⟩
/-- Behind so many elements, one at least: a comma, or the list's end. -/
theorem lT_after (us : List (List UInt8)) (i n : Nat) (hi : 0 < i) (h : i ≤ n) : ∃ t, lT us n ++ [93] = lT us i ++ ((if i < n then 44 else 93) :: t) := by
  obtain ⟨rest, h1, h2⟩ := lT_pre us i hi n h
  rcases h2 with ⟨rfl, rfl⟩ | ⟨hlt, t, rfl⟩
  · exact ⟨[], by rw [if_neg (by omega)]⟩
  · exact ⟨t ++ [93], by rw [h1, if_pos hlt, List.append_assoc]; rfl⟩
theorem vx_head {v : Vl} (hok : OkV v.k v.k v.n v.s.size) : ∃ c t, vx v = c :: t ∧ c ≠ 93 ∧ c ≠ 110 := by
  obtain ⟨k, n, s⟩ := v
  have hit : ∃ c t, Lib.itoa n = c :: t ∧ c ≠ 93 ∧ c ≠ 110 := by
    rcases itoa_cases n with ⟨_, e⟩ | ⟨_, e⟩
    · exact ⟨45, _, e, by decide, by decide⟩
    · cases hd : Lib.decDigits n.toNat with
      | nil => exact absurd hd (dec_ne _)
      | cons c t =>
        have h := dec_all (n.toNat + 1) n.toNat (by omega) c (by rw [hd]; simp)
        refine ⟨c, t, by rw [e, hd], ?_, ?_⟩ <;> (rintro rfl; exact absurd h (by decide))
  obtain ⟨_, h⟩ := hok
  dsimp only at h
  rcases h with ⟨rfl, _⟩ | ⟨rfl, _⟩ | ⟨rfl | rfl, _⟩ | ⟨rfl, _⟩
  · show ∃ c t, boolB n = c :: t ∧ c ≠ 93 ∧ c ≠ 110
    unfold boolB
    split
    · exact ⟨102, _, rfl, by decide, by decide⟩
    · exact ⟨116, _, rfl, by decide, by decide⟩
  · exact hit
  · exact hit
  · exact ⟨120, _, rfl, by decide, by decide⟩
  · exact ⟨34, _, rfl, by decide, by decide⟩
theorem gT_head (ts : List Tr) (us : List (List UInt8)) (n : Nat) : ∃ c t, gT ts us n ++ [125] = c :: t ∧ c ≠ 93 ∧ c ≠ 110 := by
  obtain ⟨rest, h1, h2⟩ := gT_pre ts us 0 n (Nat.zero_le _)
  rw [h1]
  rcases h2 with ⟨rfl, _⟩ | ⟨c, t, rfl, hc⟩
  · exact ⟨125, [], rfl, by decide, by decide⟩
  · refine ⟨c, t ++ [125], rfl, ?_, ?_⟩ <;> (rcases hc with rfl | rfl <;> decide)
theorem tx_head {t : Tr} {d : Dt} (h : chk true t d = 0) : ∃ c u, tx true t d = c :: u ∧ c ≠ 93 ∧ c ≠ 110 := by
  rw [tx_eq, if_neg (by simp), if_neg (by simp)]
  cases kd_of h with
  | list l h1 h3 hl40 each => exact absurd h1 (by simp)
  | none h1 h2 => exact absurd h1 (by simp)
  | group f h1 hk hfl each =>
    rw [if_pos hk]
    exact gT_head _ _ _
  | leaf v h1 hk hv ok =>
    rw [if_neg hk]
    exact vx_head ok
end Go.Proofs.YtmfijliladancaaGreatDoor
