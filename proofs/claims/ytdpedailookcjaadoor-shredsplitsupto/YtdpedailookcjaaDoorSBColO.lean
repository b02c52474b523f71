/-
  A column that is put together: its rows grow.
  shred.joined: columns, one behind the other.
-/
import Derived.Test.YtdpedailookcjaaDoorSBColH
import Derived.Test.YtdpedailookcjaaDoorSBRow4
import Derived.Test.YtdpedailookcjaaDoorSAppAny
namespace Go.Proofs.YtdpedailookcjaaDoor
open Go.RowKit
theorem news_v {w : World} {ad : Option Addr} {vs : List Vl} (hl : LiesV w ad vs) : ∀ j u, (vcells vs)[j]? = some u → ∃ a, ad = some a ∧ w.cell? (a.add j) = some u := fun j u hu => by
  obtain ⟨i, r, hi, rfl, hr⟩ := vcells_cell vs j u hu
  obtain ⟨b, o, e, h0, h1, h2⟩ := hl i hi
  refine ⟨_, e, ?_⟩
  rw [addr_up]
  rcases hr with ⟨rfl, rfl⟩ | ⟨rfl, rfl⟩ | ⟨rfl, rfl⟩
  · exact h0
  · rw [← Nat.add_assoc]; exact h1
  · rw [← Nat.add_assoc]; exact h2
theorem one_v (vs : List Vl) : ∀ u ∈ vcells vs, u.oneCell' = true := fun u hu => by obtain ⟨x, _, hx⟩ := List.mem_flatMap.1 hu; simp at hx; rcases hx with rfl | rfl | rfl <;> rfl
theorem vcells_app (xs ys : List Vl) : vcells (xs ++ ys) = vcells xs ++ vcells ys := by simp [vcells]
/-- A column that is put together, in a cell of the call's own. -/
structure AcI (g N : Nat) (id : Int) (rv : Value) (reps : List Int) (dv : Value) (defs : List Int) (vv : Value) (vals : List Vl) (W : World) : Prop where
  cell : W.heap[g]? = some (.cells #[.int .i64 id, rv, dv, vv] 41 (0, 0))
  rrow : W.ownsRow N 3 1 rv reps.length (i64s reps)
  drow : W.ownsRow N 3 1 dv defs.length (i64s defs)
  vrow : W.ownsRow N 53 3 vv vals.length (vcells vals)
  two : ∀ k, rv.ownBlock = some k → dv.ownBlock ≠ some k
theorem AcI.stay {g N : Nat} {id : Int} {rv dv vv : Value} {reps defs : List Int} {vals : List Vl} {W w' : World} (h : AcI g N id rv reps dv defs vv vals W) (hb : Below W.heap.size W w') : AcI g N id rv reps dv defs vv vals w' :=
  ⟨blk_keep hb h.cell, ow_kept h.rrow hb, ow_kept h.drow hb, ow_kept h.vrow hb, h.two⟩
theorem AcI.start {g N : Nat} {id : Int} {W : World} (h : W.heap[g]? = some (.cells #[.int .i64 id, .slice none 0 0, .slice none 0 0, .slice none 0 0] 41 (0, 0))) : AcI g N id (.slice none 0 0) [] (.slice none 0 0) [] (.slice none 0 0) [] W :=
  ⟨h, World.ownsRow_nil W N 3 1, World.ownsRow_nil W N 3 1, World.ownsRow_nil W N 53 3, fun k hk => by simp [Value.ownBlock] at hk⟩
theorem AcI.appR {g N : Nat} {id : Int} {rv dv vv : Value} {reps defs : List Int} {vals : List Vl} {W w1 : World} {x2 : Value} {xs : List Int} (h : AcI g N id rv reps dv defs vv vals W)
    (hown : w1.ownsRow N 3 1 x2 (reps.length + xs.length) (i64s reps ++ i64s xs)) (hg : W.grownBy w1 rv.ownBlock) (hw : x2.ownBlock = rv.ownBlock ∨ x2.ownBlock = some W.heap.size) :
    w1.heap[g]? = some (.cells #[.int .i64 id, rv, dv, vv] 41 (0, 0)) ∧ AcI g N id x2 (reps ++ xs) dv defs vv vals (w1.setCell ⟨g, 1, none⟩ x2) ∧ DFr g N W (w1.setCell ⟨g, 1, none⟩ x2) := by
  have hgl := lt_of_block h.cell
  have hng : some g ≠ rv.ownBlock := own_type h.rrow h.cell (by decide)
  have hng2 : x2.ownBlock ≠ some g := by
    rcases hw with e | e
    · rw [e]; exact fun e2 => hng e2.symm
    · rw [e]; simp; omega
  have eC : w1.heap[g]? = some (.cells #[.int .i64 id, rv, dv, vv] 41 (0, 0)) := by
    rw [hg.block g (by omega) hng]
    exact h.cell
  have hset : ∀ k, k ≠ g → (w1.setCell ⟨g, 1, none⟩ x2).heap[k]? = w1.heap[k]? := fun k hk => Below.heap_setCell _ ⟨g, 1, none⟩ _ _ hk
  have hrow : ∀ {e s n : Nat} {v : Value} {xs : List Value}, W.ownsRow N e s v n xs → e ≠ 41 → (∀ k, v.ownBlock = some k → some k ≠ rv.ownBlock) → (w1.setCell ⟨g, 1, none⟩ x2).ownsRow N e s v n xs := fun hr he hne => own_same hr fun k hk => by
    obtain ⟨q1, q2, cs, q3⟩ := own_block hr hk
    have hkg : k ≠ g := fun e2 => by subst e2; rw [h.cell] at q3; injection q3 with q3; injection q3 with _ q3 _; exact he q3.symm
    rw [hset k hkg, hg.block k q2 (hne k hk)]
  have hty : ∀ {e s n : Nat} {v : Value} {xs : List Value}, W.ownsRow N e s v n xs → 3 ≠ e → ∀ k, v.ownBlock = some k → some k ≠ rv.ownBlock := fun hr he k hk => by
    obtain ⟨_, _, cs, q3⟩ := own_block hr hk
    exact own_type h.rrow q3 he
  refine ⟨eC, ?_, ⟨hg.os, hg.tape, hg.output, by have := hg.size; simp; omega, fun k hk hne ht => ?_⟩⟩
  · refine ⟨?_, ?_, hrow h.drow (by decide) (fun k hk e => h.two k e.symm hk), hrow h.vrow (by decide) (hty h.vrow (by decide)), ?_⟩
    · rw [row_setC eC]; rfl
    · rw [List.length_append, i64s_app]
      exact own_same hown fun k hk => hset k (fun e2 => by subst e2; exact hng2 hk)
    · intro k hk
      rcases hw with e | e
      · rw [e] at hk; exact h.two k hk
      · rw [e] at hk
        simp at hk
        intro e2
        have := (own_block h.drow e2).2.1
        omega
  · rw [hset k hne, hg.block k hk (fun e => ?_)]
    obtain ⟨q1, _, cs, q3⟩ := own_block h.rrow e.symm
    exact absurd rfl (ht q1 cs _ _ q3).1
theorem AcI.appD {g N : Nat} {id : Int} {rv dv vv : Value} {reps defs : List Int} {vals : List Vl} {W w1 : World} {x2 : Value} {xs : List Int} (h : AcI g N id rv reps dv defs vv vals W)
    (hown : w1.ownsRow N 3 1 x2 (defs.length + xs.length) (i64s defs ++ i64s xs)) (hg : W.grownBy w1 dv.ownBlock) (hw : x2.ownBlock = dv.ownBlock ∨ x2.ownBlock = some W.heap.size) :
    w1.heap[g]? = some (.cells #[.int .i64 id, rv, dv, vv] 41 (0, 0)) ∧ AcI g N id rv reps x2 (defs ++ xs) vv vals (w1.setCell ⟨g, 2, none⟩ x2) ∧ DFr g N W (w1.setCell ⟨g, 2, none⟩ x2) := by
  have hgl := lt_of_block h.cell
  have hng : some g ≠ dv.ownBlock := own_type h.drow h.cell (by decide)
  have hng2 : x2.ownBlock ≠ some g := by
    rcases hw with e | e
    · rw [e]; exact fun e2 => hng e2.symm
    · rw [e]; simp; omega
  have eC : w1.heap[g]? = some (.cells #[.int .i64 id, rv, dv, vv] 41 (0, 0)) := by
    rw [hg.block g (by omega) hng]
    exact h.cell
  have hset : ∀ k, k ≠ g → (w1.setCell ⟨g, 2, none⟩ x2).heap[k]? = w1.heap[k]? := fun k hk => Below.heap_setCell _ ⟨g, 2, none⟩ _ _ hk
  have hrow : ∀ {e s n : Nat} {v : Value} {xs : List Value}, W.ownsRow N e s v n xs → e ≠ 41 → (∀ k, v.ownBlock = some k → some k ≠ dv.ownBlock) → (w1.setCell ⟨g, 2, none⟩ x2).ownsRow N e s v n xs := fun hr he hne => own_same hr fun k hk => by
    obtain ⟨q1, q2, cs, q3⟩ := own_block hr hk
    have hkg : k ≠ g := fun e2 => by subst e2; rw [h.cell] at q3; injection q3 with q3; injection q3 with _ q3 _; exact he q3.symm
    rw [hset k hkg, hg.block k q2 (hne k hk)]
  have hty : ∀ {e s n : Nat} {v : Value} {xs : List Value}, W.ownsRow N e s v n xs → 3 ≠ e → ∀ k, v.ownBlock = some k → some k ≠ dv.ownBlock := fun hr he k hk => by
    obtain ⟨_, _, cs, q3⟩ := own_block hr hk
    exact own_type h.drow q3 he
  refine ⟨eC, ?_, ⟨hg.os, hg.tape, hg.output, by have := hg.size; simp; omega, fun k hk hne ht => ?_⟩⟩
  · refine ⟨?_, hrow h.rrow (by decide) (fun k hk e => h.two k hk e.symm), ?_, hrow h.vrow (by decide) (hty h.vrow (by decide)), ?_⟩
    · rw [row_setC eC]; rfl
    · rw [List.length_append, i64s_app]
      exact own_same hown fun k hk => hset k (fun e2 => by subst e2; exact hng2 hk)
    · intro k hk e2
      rcases hw with e | e
      · rw [e] at e2; exact h.two k hk e2
      · rw [e] at e2
        simp at e2
        have := (own_block h.rrow hk).2.1
        omega
  · rw [hset k hne, hg.block k hk (fun e => ?_)]
    obtain ⟨q1, _, cs, q3⟩ := own_block h.drow e.symm
    exact absurd rfl (ht q1 cs _ _ q3).1
theorem AcI.appV {g N : Nat} {id : Int} {rv dv vv : Value} {reps defs : List Int} {vals : List Vl} {W w1 : World} {x2 : Value} {xs : List Vl} (h : AcI g N id rv reps dv defs vv vals W)
    (hown : w1.ownsRow N 53 3 x2 (vals.length + xs.length) (vcells vals ++ vcells xs)) (hg : W.grownBy w1 vv.ownBlock) (hw : x2.ownBlock = vv.ownBlock ∨ x2.ownBlock = some W.heap.size) :
    w1.heap[g]? = some (.cells #[.int .i64 id, rv, dv, vv] 41 (0, 0)) ∧ AcI g N id rv reps dv defs x2 (vals ++ xs) (w1.setCell ⟨g, 3, none⟩ x2) ∧ DFr g N W (w1.setCell ⟨g, 3, none⟩ x2) := by
  have hgl := lt_of_block h.cell
  have hng : some g ≠ vv.ownBlock := own_type h.vrow h.cell (by decide)
  have hng2 : x2.ownBlock ≠ some g := by
    rcases hw with e | e
    · rw [e]; exact fun e2 => hng e2.symm
    · rw [e]; simp; omega
  have eC : w1.heap[g]? = some (.cells #[.int .i64 id, rv, dv, vv] 41 (0, 0)) := by
    rw [hg.block g (by omega) hng]
    exact h.cell
  have hset : ∀ k, k ≠ g → (w1.setCell ⟨g, 3, none⟩ x2).heap[k]? = w1.heap[k]? := fun k hk => Below.heap_setCell _ ⟨g, 3, none⟩ _ _ hk
  have hrow : ∀ {e s n : Nat} {v : Value} {xs : List Value}, W.ownsRow N e s v n xs → e ≠ 41 → (∀ k, v.ownBlock = some k → some k ≠ vv.ownBlock) → (w1.setCell ⟨g, 3, none⟩ x2).ownsRow N e s v n xs := fun hr he hne => own_same hr fun k hk => by
    obtain ⟨q1, q2, cs, q3⟩ := own_block hr hk
    have hkg : k ≠ g := fun e2 => by subst e2; rw [h.cell] at q3; injection q3 with q3; injection q3 with _ q3 _; exact he q3.symm
    rw [hset k hkg, hg.block k q2 (hne k hk)]
  have hty : ∀ {e s n : Nat} {v : Value} {xs : List Value}, W.ownsRow N e s v n xs → 53 ≠ e → ∀ k, v.ownBlock = some k → some k ≠ vv.ownBlock := fun hr he k hk => by
    obtain ⟨_, _, cs, q3⟩ := own_block hr hk
    exact own_type h.vrow q3 he
  refine ⟨eC, ?_, ⟨hg.os, hg.tape, hg.output, by have := hg.size; simp; omega, fun k hk hne ht => ?_⟩⟩
  · refine ⟨?_, hrow h.rrow (by decide) (hty h.rrow (by decide)), hrow h.drow (by decide) (hty h.drow (by decide)), ?_, h.two⟩
    · rw [row_setC eC]; rfl
    · rw [List.length_append, vcells_app]
      exact own_same hown fun k hk => hset k (fun e2 => by subst e2; exact hng2 hk)
  · rw [hset k hne, hg.block k hk (fun e => ?_)]
    obtain ⟨q1, _, cs, q3⟩ := own_block h.vrow e.symm
    exact absurd rfl (ht q1 cs _ _ q3).2
end Go.Proofs.YtdpedailookcjaaDoor

namespace Go.Proofs.YtdpedailookcjaaDoor
open Go.RowKit
/-- A column that lies somewhere. -/
structure Cl where
  id : Int
  ra : Option Addr
  rs : List Int
  rc : Nat
  da : Option Addr
  ds : List Int
  dc : Nat
  va : Option Addr
  vs : List Vl
  vc : Nat
abbrev Cl.val (c : Cl) : Value := colV c.id c.ra c.rs.length c.rc c.da c.ds.length c.dc c.va c.vs.length c.vc
/-- Its rows lie in a world. -/
structure Cl.At (w : World) (c : Cl) : Prop where
  r : Lies w c.ra (i64s c.rs)
  d : Lies w c.da (i64s c.ds)
  v : LiesV w c.va c.vs
theorem Cl.At.keep {w w' : World} {c : Cl} (h : c.At w) (hb : Below w.heap.size w w') : c.At w' := ⟨h.r.keep hb, h.d.keep hb, h.v.keep hb⟩
/-- Its rows lie in blocks from one on. -/
structure Cl.Fr (N : Nat) (c : Cl) : Prop where
  r : ∀ p, c.ra = some p → N ≤ p.block
  d : ∀ p, c.da = some p → N ≤ p.block
  v : ∀ p, c.va = some p → N ≤ p.block
theorem Cl.At.off {w : World} {c : Cl} {N : Nat} (h : c.At w) (hf : c.Fr N) {g j : Nat} {v : Value} (hg : g < N) : c.At (w.setCell ⟨g, j, none⟩ v) :=
  ⟨h.r.off fun p hp => Nat.lt_of_lt_of_le hg (hf.r p hp), h.d.off fun p hp => Nat.lt_of_lt_of_le hg (hf.d p hp), h.v.off fun p hp => Nat.lt_of_lt_of_le hg (hf.v p hp)⟩
/-- Where a slice of columns lies. -/
def LiesC (w : World) (a : Option Addr) (cs : List Cl) : Prop := ∀ j (h : j < cs.length), (∃ b o, a = some ⟨b, o, none⟩ ∧ w.cell? ⟨b, o + j * 4, none⟩ = some (.int .i64 cs[j].id) ∧ w.cell? ⟨b, o + j * 4 + 1, none⟩ = some (.slice cs[j].ra cs[j].rs.length cs[j].rc) ∧ w.cell? ⟨b, o + j * 4 + 2, none⟩ = some (.slice cs[j].da cs[j].ds.length cs[j].dc) ∧ w.cell? ⟨b, o + j * 4 + 3, none⟩ = some (.slice cs[j].va cs[j].vs.length cs[j].vc)) ∧ cs[j].At w
theorem LiesC.keep {w w' : World} {a : Option Addr} {cs : List Cl} (h : LiesC w a cs) (hb : Below w.heap.size w w') : LiesC w' a cs := fun j hj => by
  obtain ⟨⟨b, o, e, h0, h1, h2, h3⟩, h4⟩ := h j hj
  exact ⟨⟨b, o, e, (hb.cell (World.block_lt_of_cell? w _ h0)).trans h0, (hb.cell (World.block_lt_of_cell? w _ h1)).trans h1, (hb.cell (World.block_lt_of_cell? w _ h2)).trans h2, (hb.cell (World.block_lt_of_cell? w _ h3)).trans h3⟩, h4.keep hb⟩
def jR (cs : List Cl) : List Int := cs.flatMap (·.rs)
def jD (cs : List Cl) : List Int := cs.flatMap (·.ds)
def jV (cs : List Cl) : List Vl := cs.flatMap (·.vs)
theorem jR_succ {cs : List Cl} {i : Nat} (h : i < cs.length) : jR (cs.take (i + 1)) = jR (cs.take i) ++ cs[i].rs := by rw [jR, jR, List.take_succ_eq_append_getElem h, List.flatMap_append]; simp
theorem jD_succ {cs : List Cl} {i : Nat} (h : i < cs.length) : jD (cs.take (i + 1)) = jD (cs.take i) ++ cs[i].ds := by rw [jD, jD, List.take_succ_eq_append_getElem h, List.flatMap_append]; simp
theorem jV_succ {cs : List Cl} {i : Nat} (h : i < cs.length) : jV (cs.take (i + 1)) = jV (cs.take i) ++ cs[i].vs := by rw [jV, jV, List.take_succ_eq_append_getElem h, List.flatMap_append]; simp
theorem jR_split (cs : List Cl) (i : Nat) : jR cs = jR (cs.take i) ++ jR (cs.drop i) := by simp [jR, ← List.flatMap_append]
theorem jD_split (cs : List Cl) (i : Nat) : jD cs = jD (cs.take i) ++ jD (cs.drop i) := by simp [jD, ← List.flatMap_append]
theorem jV_split (cs : List Cl) (i : Nat) : jV cs = jV (cs.take i) ++ jV (cs.drop i) := by simp [jV, ← List.flatMap_append]
theorem jR_le (cs : List Cl) (i : Nat) : (jR (cs.take i)).length ≤ (jR cs).length := by rw [jR_split cs i, List.length_append]; omega
theorem jD_le (cs : List Cl) (i : Nat) : (jD (cs.take i)).length ≤ (jD cs).length := by rw [jD_split cs i, List.length_append]; omega
theorem jV_le (cs : List Cl) (i : Nat) : (jV (cs.take i)).length ≤ (jV cs).length := by rw [jV_split cs i, List.length_append]; omega
/-- What the loop of 'joined' holds. -/
def JnI (W w2 : World) (lid : Int) (cs : List Cl) (i : Nat) (wr : World) : Prop := (∃ rv dv vv, AcI (W.heap.size + 1 + 1) (W.heap.size + 1 + 1 + 1) lid rv (jR (cs.take i)) dv (jD (cs.take i)) vv (jV (cs.take i)) wr) ∧ DFr (W.heap.size + 1 + 1) (W.heap.size + 1 + 1 + 1) w2 wr
/-- Rows with room. -/
def Cl.Cap (k : Cl) : Prop := k.rs.length ≤ k.rc ∧ k.ds.length ≤ k.dc ∧ k.vs.length ≤ k.vc
set_option maxRecDepth 100000 in
set_option maxHeartbeats 6400000 in
theorem joined_cap (lid kind mr md : Int) (pa : Option Addr) (pn pc : Nat) (a : Option Addr) (c : Nat) (cs : List Cl) (W : World) (hn : cs.length ≤ 1048576) (hjr : (jR cs).length ≤ 1048576) (hjd : (jD cs).length ≤ 1048576) (hjv : (jV cs).length ≤ 1048576) (hl : LiesC W a cs) :
    Calls Tryd.prog 26 #[leafV lid kind mr md pa pn pc, .slice a cs.length c] W fun e w' => (∃ k : Cl, e = .returned k.val ∧ k.At w' ∧ k.Fr W.heap.size ∧ k.id = lid ∧ k.rs = jR cs ∧ k.ds = jD cs ∧ k.vs = jV cs ∧ k.Cap) ∧ Below W.heap.size W w' := by
  obtain ⟨iv, hvi, hv0, hv1, hv2⟩ := info_parts Tryd.info3
  obtain ⟨iw, hwi, hw0, hw1, hw2⟩ := info_parts Tryd.infoV
  unfold leafV
  obtain ⟨w0, HW0, HX, HY, HB⟩ := two_boxes W #[.int .i64 lid, .int .i64 kind, .int .i64 mr, .int .i64 md, .slice pa pn pc] #[.int .i64 0, .slice none 0 0, .slice none 0 0, .slice none 0 0] 45 41
  have hz : w0.heap.size = W.heap.size + 1 + 1 := by rw [← HW0.out]; simp
  obtain ⟨w2, HW2⟩ : ∃ w2, Hid (w0.alloc (.cells #[.int .i64 lid, .slice none 0 0, .slice none 0 0, .slice none 0 0] 41) = w2) := ⟨_, rfl⟩
  have hz2 : w2.heap.size = W.heap.size + 1 + 1 + 1 := by rw [← HW2.out]; simp [hz]
  have HA : Hid (w2.heap[W.heap.size + 1 + 1]? = some (.cells #[.int .i64 lid, .slice none 0 0, .slice none 0 0, .slice none 0 0] 41 (0, 0))) := (by
    have h := heap_alloc_new w0 (.cells #[.int .i64 lid, .slice none 0 0, .slice none 0 0, .slice none 0 0] 41)
    rw [hz, HW2.out] at h
    exact h)
  have HB2 : Hid (Below W.heap.size W w2) := (by
    have h := HB.out.alloc HB.out.size (.cells #[.int .i64 lid, .slice none 0 0, .slice none 0 0, .slice none 0 0] 41)
    rw [HW2.out] at h
    exact h)
  have HY2 : Hid (w2.heap[W.heap.size + 1]? = some (.cells #[.int .i64 0, .slice none 0 0, .slice none 0 0, .slice none 0 0] 41 (0, 0))) := (by
    have h := blk_alloc (o' := .cells #[.int .i64 lid, .slice none 0 0, .slice none 0 0, .slice none 0 0] 41) HY.out
    rw [HW2.out] at h
    exact h)
  have HL : Hid (∀ wr, DFr (W.heap.size + 1 + 1) (W.heap.size + 1 + 1 + 1) w2 wr → LiesC wr a cs) := fun wr hd => hl.keep (HB2.out.trans (hd.below (by omega) (by omega) (by omega)))
  have HZ2 : Hid _ := hz2
  have p0 := (row_five HX.out).1.1
  clear hl hz hz2
  go_enter Tryd.func26, Tryd.ntmps26
  go_wp2
  rw [HW0.out, HW2.out]
  clear p0
  go_loopw [13] (fun x wr => ∃ i : Nat, i ≤ cs.length ∧ x = .int .i64 i ∧ Hid (JnI W w2 lid cs i wr)) (fun x _ => cs.length - (intOf x).toNat)
  case atStart => exact ⟨0, Nat.zero_le _, rfl, ⟨_, _, _, AcI.start HA.out⟩, DFr.refl _ _ _⟩
  case round =>
    obtain ⟨i, hi, rfl, HJ⟩ := hrel
    have hsz : W.heap.size + 1 + 1 + 1 ≤ wr.heap.size := by have := HJ.out.2.size; rw [HZ2.out] at this; exact this
    obtain ⟨rv, dv, vv, hI⟩ := HJ.out.1
    obtain ⟨ra, rc, rfl⟩ := own_slC hI.rrow
    obtain ⟨da, dc, rfl⟩ := own_slC hI.drow
    obtain ⟨va, vc, rfl⟩ := own_slC hI.vrow
    have HI : Hid _ := hI
    clear hI
    by_cases hlt : i < cs.length
    · obtain ⟨⟨b, o, rfl, c0, c1, c2, c3⟩, hat⟩ := HL.out wr HJ.out.2 i hlt
      have HAT : Hid (∀ X, DFr (W.heap.size + 1 + 1) (W.heap.size + 1 + 1 + 1) w2 X → cs[i].At X) := fun X hX => (HL.out X hX i hlt).2
      have HJr : Hid (jR (cs.take (i + 1)) = jR (cs.take i) ++ cs[i].rs) := jR_succ hlt
      have HJd : Hid (jD (cs.take (i + 1)) = jD (cs.take i) ++ cs[i].ds) := jD_succ hlt
      have HJv : Hid (jV (cs.take (i + 1)) = jV (cs.take i) ++ cs[i].vs) := jV_succ hlt
      have HLr : Hid ((jR (cs.take i)).length + cs[i].rs.length ≤ 1048576) := (by have h := jR_le cs (i + 1); rw [HJr.out, List.length_append] at h; show _ ≤ _; omega)
      have HLd : Hid ((jD (cs.take i)).length + cs[i].ds.length ≤ 1048576) := (by have h := jD_le cs (i + 1); rw [HJd.out, List.length_append] at h; show _ ≤ _; omega)
      have HLv : Hid ((jV (cs.take i)).length + cs[i].vs.length ≤ 1048576) := (by have h := jV_le cs (i + 1); rw [HJv.out, List.length_append] at h; show _ ≤ _; omega)
      generalize cs[i] = k at *
      clear hat
      have hne : wr.heap.size ≠ W.heap.size + 1 + 1 := by omega
      have HB0 : Hid (Below wr.heap.size wr (wr.alloc (.cells #[.int .i64 k.id, .slice k.ra k.rs.length k.rc, .slice k.da k.ds.length k.dc, .slice k.va k.vs.length k.vc] 41))) := (Below.refl _ _).alloc (Nat.le_refl _) _
      have HI0 : Hid _ := HI.out.stay HB0.out
      have HD0 : Hid (DFr (W.heap.size + 1 + 1) (W.heap.size + 1 + 1 + 1) w2 _) := HJ.out.2.trans (.of_below HB0.out)
      have HC0 : Hid _ := heap_alloc_new wr (.cells #[.int .i64 k.id, .slice k.ra k.rs.length k.rc, .slice k.da k.ds.length k.dc, .slice k.va k.vs.length k.vc] 41)
      obtain ⟨g0, g1, g2, g3⟩ := row_four HI0.out.cell
      go_wp2_with (first
        | (at_builtin; refine wpList_append_any _ rfl _ _ 38 rfl (W.heap.size + 1 + 1 + 1) 3 iv (.int .i64 0) 1 8 Tryd.underlying38 hvi hv0 hv1 hv2 rfl (by decide) _ _ (i64s (jR (cs.take i))) rfl HI0.out.rrow k.ra k.rs.length k.rc (i64s k.rs) rfl (by rw [i64s_len, Nat.mul_one]) (news_i (HAT.out _ HD0.out).r) (one_i _) (by have := HLr.out; unfold maxLen; omega) (by have := HLr.out; omega) (by have h5 := HD0.out.size; rw [HZ2.out] at h5; exact h5) ?_; intro v1 x1 hown1 hg1 hw1; obtain ⟨k1, k2, k3⟩ := AcI.appR HI0.out hown1 hg1 hw1; obtain ⟨a1, e1, rfl⟩ := own_slC hown1; have HI1 : Hid _ := k2; have HD1 : Hid (DFr (W.heap.size + 1 + 1) (W.heap.size + 1 + 1 + 1) w2 _) := HD0.out.trans k3; have HC1 : Hid _ := k3.box HC0.out hne (by decide); clear hown1 hg1 hw1 k2 k3 g0 g1 g2 g3; obtain ⟨g0, g1, g2, g3⟩ := row_four k1; obtain ⟨f0, f1, f2, f3⟩ := row_fourA k1; obtain ⟨d0, d1, d2, d3⟩ := row_four HC1.out; clear k1)
        | (at_builtin; refine wpList_append_any _ rfl _ _ 38 rfl (W.heap.size + 1 + 1 + 1) 3 iv (.int .i64 0) 1 8 Tryd.underlying38 hvi hv0 hv1 hv2 rfl (by decide) _ _ (i64s (jD (cs.take i))) rfl HI1.out.drow k.da k.ds.length k.dc (i64s k.ds) rfl (by rw [i64s_len, Nat.mul_one]) (news_i (HAT.out _ HD1.out).d) (one_i _) (by have := HLd.out; unfold maxLen; omega) (by have := HLd.out; omega) (by have h5 := HD1.out.size; rw [HZ2.out] at h5; exact h5) ?_; intro v2 x2 hown2 hg2 hw2; obtain ⟨k1, k2, k3⟩ := AcI.appD HI1.out hown2 hg2 hw2; obtain ⟨a2, e2, rfl⟩ := own_slC hown2; have HI2 : Hid _ := k2; have HD2 : Hid (DFr (W.heap.size + 1 + 1) (W.heap.size + 1 + 1 + 1) w2 _) := HD1.out.trans k3; have HC2 : Hid _ := k3.box HC1.out hne (by decide); clear hown2 hg2 hw2 k2 k3 g0 g1 g2 g3; obtain ⟨g0, g1, g2, g3⟩ := row_four k1; obtain ⟨f0, f1, f2, f3⟩ := row_fourA k1; obtain ⟨d0, d1, d2, d3⟩ := row_four HC2.out; clear k1)
        | (at_builtin; refine wpList_append_any _ rfl _ _ 39 rfl (W.heap.size + 1 + 1 + 1) 53 iw (.agg #[.int .i64 0, .int .i64 0, .string ⟨#[]⟩]) 3 32 Tryd.underlying39 hwi hw0 hw1 hw2 rfl (by decide) _ _ (vcells (jV (cs.take i))) rfl HI2.out.vrow k.va k.vs.length k.vc (vcells k.vs) rfl (vcells_len _) (news_v (HAT.out _ HD2.out).v) (one_v _) (by have := HLv.out; unfold maxLen; omega) (by have := HLv.out; omega) (by have h5 := HD2.out.size; rw [HZ2.out] at h5; exact h5) ?_; intro v3 x3 hown3 hg3 hw3; obtain ⟨k1, k2, k3⟩ := AcI.appV HI2.out hown3 hg3 hw3; obtain ⟨a3, e3, rfl⟩ := own_slC hown3; have HI3 : Hid _ := k2; have HD3 : Hid (DFr (W.heap.size + 1 + 1) (W.heap.size + 1 + 1 + 1) w2 _) := HD2.out.trans k3; have HC3 : Hid _ := k3.box HC2.out hne (by decide); clear hown3 hg3 hw3 k2 k3 g0 g1 g2 g3; obtain ⟨g0, g1, g2, g3⟩ := row_four k1; obtain ⟨f0, f1, f2, f3⟩ := row_fourA k1; obtain ⟨d0, d1, d2, d3⟩ := row_four HC3.out; clear k1))
      go_roundw
      case rel => exact ⟨i + 1, by omega, by go_num, ⟨_, _, _, by rw [HJr.out, HJd.out, HJv.out]; exact HI3.out⟩, HD3.out⟩
      case measure => simp [intOf]; omega
    · obtain rfl : i = cs.length := by omega
      obtain ⟨g0, g1, g2, g3⟩ := row_four HI.out.cell
      have hy := HJ.out.2.box HY2.out (by omega) (by decide)
      obtain ⟨z0, z1, z2, z3⟩ := row_four hy
      obtain ⟨f0, f1, f2, f3⟩ := row_fourA hy
      have HYr : Hid _ := hy
      clear hy
      go_wp2
      have f1 := own_fresh HI.out.rrow rfl
      have f2 := own_fresh HI.out.drow rfl
      have f3 := own_fresh HI.out.vrow rfl
      have f1' : ∀ p, ra = some p → W.heap.size + 1 < p.block := fun p hp => by have := f1 p hp; omega
      have f2' : ∀ p, da = some p → W.heap.size + 1 < p.block := fun p hp => by have := f2 p hp; omega
      have f3' : ∀ p, va = some p → W.heap.size + 1 < p.block := fun p hp => by have := f3 p hp; omega
      have l1 : Lies wr ra (i64s (jR (cs.take cs.length))) := by
        obtain ⟨a', c', he, hl⟩ := lies_own HI.out.rrow
        injection he with e1 _ _; subst e1; exact hl
      have l2 : Lies wr da (i64s (jD (cs.take cs.length))) := by
        obtain ⟨a', c', he, hl⟩ := lies_own HI.out.drow
        injection he with e1 _ _; subst e1; exact hl
      have l3 : LiesV wr va (jV (cs.take cs.length)) := by
        obtain ⟨a', c', he, hl⟩ := liesV_own HI.out.vrow
        injection he with e1 _ _; subst e1; exact hl
      rw [List.take_length] at l1 l2 l3
      have cap1 : (jR cs).length ≤ rc := by have h := own_capJ HI.out.rrow; rw [List.take_length] at h; simpa using h
      have cap2 : (jD cs).length ≤ dc := by have h := own_capJ HI.out.drow; rw [List.take_length] at h; simpa using h
      have cap3 : (jV cs).length ≤ vc := by have h := own_capJ HI.out.vrow; rw [List.take_length] at h; simpa using h
      have hbw : Below W.heap.size W wr := HB2.out.trans (HJ.out.2.below (by have := HZ2.out; omega) (by omega) (by omega))
      exact bodyPost_ret (v := .agg #[.int .i64 lid, .slice ra (jR cs).length rc, .slice da (jD cs).length dc, .slice va (jV cs).length vc]) (results_cell_row Tryd.results26 _ _ (W.heap.size + 1) 41 #[.int .i64 lid, .slice ra (jR cs).length rc, .slice da (jD cs).length dc, .slice va (jV cs).length vc] (0, 0) _ rfl (row_setCell (row_setCell (row_setCell (row_setCell HYr.out _) _) _) _) Tryd.underlying41 rfl (by kernel_rfl)) rfl ⟨⟨⟨lid, ra, jR cs, rc, da, jD cs, dc, va, jV cs, vc⟩, rfl, ⟨(((l1.off f1').off f1').off f1').off f1', (((l2.off f2').off f2').off f2').off f2', (((l3.off f3').off f3').off f3').off f3'⟩, ⟨fun p hp => by have := f1' p hp; omega, fun p hp => by have := f2' p hp; omega, fun p hp => by have := f3' p hp; omega⟩, rfl, rfl, rfl, rfl, ⟨cap1, cap2, cap3⟩⟩, (((hbw.setCell (by simp) _).setCell (by simp) _).setCell (by simp) _).setCell (by simp) _⟩
theorem joined_any (lid kind mr md : Int) (pa : Option Addr) (pn pc : Nat) (a : Option Addr) (c : Nat) (cs : List Cl) (W : World) (hn : cs.length ≤ 1048576) (hjr : (jR cs).length ≤ 1048576) (hjd : (jD cs).length ≤ 1048576) (hjv : (jV cs).length ≤ 1048576) (hl : LiesC W a cs) :
    Calls Tryd.prog 26 #[leafV lid kind mr md pa pn pc, .slice a cs.length c] W fun e w' => (∃ k : Cl, e = .returned k.val ∧ k.At w' ∧ k.Fr W.heap.size ∧ k.id = lid ∧ k.rs = jR cs ∧ k.ds = jD cs ∧ k.vs = jV cs) ∧ Below W.heap.size W w' :=
  (joined_cap lid kind mr md pa pn pc a c cs W hn hjr hjd hjv hl).mono fun _ _ h => by
    obtain ⟨⟨k, h1, h2, h3, h4, h5, h6, h7, _⟩, hb⟩ := h
    exact ⟨⟨k, h1, h2, h3, h4, h5, h6, h7⟩, hb⟩
end Go.Proofs.YtdpedailookcjaaDoor
