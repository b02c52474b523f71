/-
  A column that is put together: its rows grow.
  shred.joined: columns, one behind the other.
  assemble's readers: what one has read, and what is left.
-/
import Derived.Test.YtbicfjimlpdnkaaGreatDoorHBColH
import Derived.Test.YtbicfjimlpdnkaaGreatDoorHBRow4
import Derived.Test.YtbicfjimlpdnkaaGreatDoorHAppAny
import Derived.Test.YtbicfjimlpdnkaaGreatDoorHBWriter
import Derived.Test.YtbicfjimlpdnkaaGreatDoorHBChkD
import Derived.BigQuiet
namespace Go.Proofs.YtbicfjimlpdnkaaGreatDoor
open Go.RowKit
theorem news_v {w : World} {ad : Option Addr} {vs : List Vl} (hl : LiesV w ad vs) : ∀ j u, (vcells vs)[j]? = some u → ∃ a, ad = some a ∧ w.cell? (a.add j) = some u := fun j u hu => by
  obtain ⟨i, r, hi, rfl, hr⟩ := vcells_cell vs j u hu
  obtain ⟨b, o, e, h0, h1, h2⟩ := hl i hi
  refine ⟨_, e, ?_⟩
  rw [addr_up]
  rcases hr with ⟨rfl, rfl⟩ | ⟨rfl, rfl⟩ | ⟨rfl, rfl⟩
  · exact h0
  · rw [← Nat.add_assoc]; exact h1
  · rw [← Nat.add_assoc]; exact h2
theorem one_v (vs : List Vl) : ∀ u ∈ vcells vs, u.oneCell' = true := fun u hu => by obtain ⟨x, _, hx⟩ := List.mem_flatMap.1 hu; simp at hx; rcases hx with rfl | rfl | rfl <;> rfl
theorem vcells_app (xs ys : List Vl) : vcells (xs ++ ys) = vcells xs ++ vcells ys := by simp [vcells]
/-- A column that is put together, in a cell of the call's own. -/
structure AcI (g N : Nat) (id : Int) (rv : Value) (reps : List Int) (dv : Value) (defs : List Int) (vv : Value) (vals : List Vl) (W : World) : Prop where
  cell : W.heap[g]? = some (.cells #[.int .i64 id, rv, dv, vv] 42 (0, 0))
  rrow : W.ownsRow N 3 1 rv reps.length (i64s reps)
  drow : W.ownsRow N 3 1 dv defs.length (i64s defs)
  vrow : W.ownsRow N 56 3 vv vals.length (vcells vals)
  two : ∀ k, rv.ownBlock = some k → dv.ownBlock ≠ some k
theorem AcI.stay {g N : Nat} {id : Int} {rv dv vv : Value} {reps defs : List Int} {vals : List Vl} {W w' : World} (h : AcI g N id rv reps dv defs vv vals W) (hb : Below W.heap.size W w') : AcI g N id rv reps dv defs vv vals w' :=
  ⟨blk_keep hb h.cell, ow_kept h.rrow hb, ow_kept h.drow hb, ow_kept h.vrow hb, h.two⟩
theorem AcI.start {g N : Nat} {id : Int} {W : World} (h : W.heap[g]? = some (.cells #[.int .i64 id, .slice none 0 0, .slice none 0 0, .slice none 0 0] 42 (0, 0))) : AcI g N id (.slice none 0 0) [] (.slice none 0 0) [] (.slice none 0 0) [] W :=
  ⟨h, World.ownsRow_nil W N 3 1, World.ownsRow_nil W N 3 1, World.ownsRow_nil W N 56 3, fun k hk => by simp [Value.ownBlock] at hk⟩
theorem AcI.appR {g N : Nat} {id : Int} {rv dv vv : Value} {reps defs : List Int} {vals : List Vl} {W w1 : World} {x2 : Value} {xs : List Int} (h : AcI g N id rv reps dv defs vv vals W)
    (hown : w1.ownsRow N 3 1 x2 (reps.length + xs.length) (i64s reps ++ i64s xs)) (hg : W.grownBy w1 rv.ownBlock) (hw : x2.ownBlock = rv.ownBlock ∨ x2.ownBlock = some W.heap.size) :
    w1.heap[g]? = some (.cells #[.int .i64 id, rv, dv, vv] 42 (0, 0)) ∧ AcI g N id x2 (reps ++ xs) dv defs vv vals (w1.setCell ⟨g, 1, none⟩ x2) ∧ DFr g N W (w1.setCell ⟨g, 1, none⟩ x2) := by
  have hgl := lt_of_block h.cell
  have hng : some g ≠ rv.ownBlock := own_type h.rrow h.cell (by decide)
  have hng2 : x2.ownBlock ≠ some g := by
    rcases hw with e | e
    · rw [e]; exact fun e2 => hng e2.symm
    · rw [e]; simp; omega
  have eC : w1.heap[g]? = some (.cells #[.int .i64 id, rv, dv, vv] 42 (0, 0)) := by
    rw [hg.block g (by omega) hng]
    exact h.cell
  have hset : ∀ k, k ≠ g → (w1.setCell ⟨g, 1, none⟩ x2).heap[k]? = w1.heap[k]? := fun k hk => Below.heap_setCell _ ⟨g, 1, none⟩ _ _ hk
  have hrow : ∀ {e s n : Nat} {v : Value} {xs : List Value}, W.ownsRow N e s v n xs → e ≠ 42 → (∀ k, v.ownBlock = some k → some k ≠ rv.ownBlock) → (w1.setCell ⟨g, 1, none⟩ x2).ownsRow N e s v n xs := fun hr he hne => own_same hr fun k hk => by
    obtain ⟨q1, q2, cs, q3⟩ := own_block hr hk
    have hkg : k ≠ g := fun e2 => by subst e2; rw [h.cell] at q3; injection q3 with q3; injection q3 with _ q3 _; exact he q3.symm
    rw [hset k hkg, hg.block k q2 (hne k hk)]
  have hty : ∀ {e s n : Nat} {v : Value} {xs : List Value}, W.ownsRow N e s v n xs → 3 ≠ e → ∀ k, v.ownBlock = some k → some k ≠ rv.ownBlock := fun hr he k hk => by
    obtain ⟨_, _, cs, q3⟩ := own_block hr hk
    exact own_type h.rrow q3 he
  refine ⟨eC, ?_, ⟨hg.os, hg.tape, hg.output, by have := hg.size; simp; omega, fun k hk hne ht => ?_⟩⟩
  · refine ⟨?_, ?_, hrow h.drow (by decide) (fun k hk e => h.two k e.symm hk), hrow h.vrow (by decide) (hty h.vrow (by decide)), ?_⟩
    · rw [row_setC eC]; rfl
    · rw [List.length_append, i64s_app]
      exact own_same hown fun k hk => hset k (fun e2 => by subst e2; exact hng2 hk)
    · intro k hk
      rcases hw with e | e
      · rw [e] at hk; exact h.two k hk
      · rw [e] at hk
        simp at hk
        intro e2
        have := (own_block h.drow e2).2.1
        omega
  · rw [hset k hne, hg.block k hk (fun e => ?_)]
    obtain ⟨q1, _, cs, q3⟩ := own_block h.rrow e.symm
    exact absurd rfl (ht q1 cs _ _ q3).1
theorem AcI.appD {g N : Nat} {id : Int} {rv dv vv : Value} {reps defs : List Int} {vals : List Vl} {W w1 : World} {x2 : Value} {xs : List Int} (h : AcI g N id rv reps dv defs vv vals W)
    (hown : w1.ownsRow N 3 1 x2 (defs.length + xs.length) (i64s defs ++ i64s xs)) (hg : W.grownBy w1 dv.ownBlock) (hw : x2.ownBlock = dv.ownBlock ∨ x2.ownBlock = some W.heap.size) :
    w1.heap[g]? = some (.cells #[.int .i64 id, rv, dv, vv] 42 (0, 0)) ∧ AcI g N id rv reps x2 (defs ++ xs) vv vals (w1.setCell ⟨g, 2, none⟩ x2) ∧ DFr g N W (w1.setCell ⟨g, 2, none⟩ x2) := by
  have hgl := lt_of_block h.cell
  have hng : some g ≠ dv.ownBlock := own_type h.drow h.cell (by decide)
  have hng2 : x2.ownBlock ≠ some g := by
    rcases hw with e | e
    · rw [e]; exact fun e2 => hng e2.symm
    · rw [e]; simp; omega
  have eC : w1.heap[g]? = some (.cells #[.int .i64 id, rv, dv, vv] 42 (0, 0)) := by
    rw [hg.block g (by omega) hng]
    exact h.cell
  have hset : ∀ k, k ≠ g → (w1.setCell ⟨g, 2, none⟩ x2).heap[k]? = w1.heap[k]? := fun k hk => Below.heap_setCell _ ⟨g, 2, none⟩ _ _ hk
  have hrow : ∀ {e s n : Nat} {v : Value} {xs : List Value}, W.ownsRow N e s v n xs → e ≠ 42 → (∀ k, v.ownBlock = some k → some k ≠ dv.ownBlock) → (w1.setCell ⟨g, 2, none⟩ x2).ownsRow N e s v n xs := fun hr he hne => own_same hr fun k hk => by
    obtain ⟨q1, q2, cs, q3⟩ := own_block hr hk
    have hkg : k ≠ g := fun e2 => by subst e2; rw [h.cell] at q3; injection q3 with q3; injection q3 with _ q3 _; exact he q3.symm
    rw [hset k hkg, hg.block k q2 (hne k hk)]
  have hty : ∀ {e s n : Nat} {v : Value} {xs : List Value}, W.ownsRow N e s v n xs → 3 ≠ e → ∀ k, v.ownBlock = some k → some k ≠ dv.ownBlock := fun hr he k hk => by
    obtain ⟨_, _, cs, q3⟩ := own_block hr hk
    exact own_type h.drow q3 he
  refine ⟨eC, ?_, ⟨hg.os, hg.tape, hg.output, by have := hg.size; simp; omega, fun k hk hne ht => ?_⟩⟩
  · refine ⟨?_, hrow h.rrow (by decide) (fun k hk e => h.two k hk e.symm), ?_, hrow h.vrow (by decide) (hty h.vrow (by decide)), ?_⟩
    · rw [row_setC eC]; rfl
    · rw [List.length_append, i64s_app]
      exact own_same hown fun k hk => hset k (fun e2 => by subst e2; exact hng2 hk)
    · intro k hk e2
      rcases hw with e | e
      · rw [e] at e2; exact h.two k hk e2
      · rw [e] at e2
        simp at e2
        have := (own_block h.rrow hk).2.1
        omega
  · rw [hset k hne, hg.block k hk (fun e => ?_)]
    obtain ⟨q1, _, cs, q3⟩ := own_block h.drow e.symm
    exact absurd rfl (ht q1 cs _ _ q3).1
theorem AcI.appV {g N : Nat} {id : Int} {rv dv vv : Value} {reps defs : List Int} {vals : List Vl} {W w1 : World} {x2 : Value} {xs : List Vl} (h : AcI g N id rv reps dv defs vv vals W)
    (hown : w1.ownsRow N 56 3 x2 (vals.length + xs.length) (vcells vals ++ vcells xs)) (hg : W.grownBy w1 vv.ownBlock) (hw : x2.ownBlock = vv.ownBlock ∨ x2.ownBlock = some W.heap.size) :
    w1.heap[g]? = some (.cells #[.int .i64 id, rv, dv, vv] 42 (0, 0)) ∧ AcI g N id rv reps dv defs x2 (vals ++ xs) (w1.setCell ⟨g, 3, none⟩ x2) ∧ DFr g N W (w1.setCell ⟨g, 3, none⟩ x2) := by
  have hgl := lt_of_block h.cell
  have hng : some g ≠ vv.ownBlock := own_type h.vrow h.cell (by decide)
  have hng2 : x2.ownBlock ≠ some g := by
    rcases hw with e | e
    · rw [e]; exact fun e2 => hng e2.symm
    · rw [e]; simp; omega
  have eC : w1.heap[g]? = some (.cells #[.int .i64 id, rv, dv, vv] 42 (0, 0)) := by
    rw [hg.block g (by omega) hng]
    exact h.cell
  have hset : ∀ k, k ≠ g → (w1.setCell ⟨g, 3, none⟩ x2).heap[k]? = w1.heap[k]? := fun k hk => Below.heap_setCell _ ⟨g, 3, none⟩ _ _ hk
  have hrow : ∀ {e s n : Nat} {v : Value} {xs : List Value}, W.ownsRow N e s v n xs → e ≠ 42 → (∀ k, v.ownBlock = some k → some k ≠ vv.ownBlock) → (w1.setCell ⟨g, 3, none⟩ x2).ownsRow N e s v n xs := fun hr he hne => own_same hr fun k hk => by
    obtain ⟨q1, q2, cs, q3⟩ := own_block hr hk
    have hkg : k ≠ g := fun e2 => by subst e2; rw [h.cell] at q3; injection q3 with q3; injection q3 with _ q3 _; exact he q3.symm
    rw [hset k hkg, hg.block k q2 (hne k hk)]
  have hty : ∀ {e s n : Nat} {v : Value} {xs : List Value}, W.ownsRow N e s v n xs → 56 ≠ e → ∀ k, v.ownBlock = some k → some k ≠ vv.ownBlock := fun hr he k hk => by
    obtain ⟨_, _, cs, q3⟩ := own_block hr hk
    exact own_type h.vrow q3 he
  refine ⟨eC, ?_, ⟨hg.os, hg.tape, hg.output, by have := hg.size; simp; omega, fun k hk hne ht => ?_⟩⟩
  · refine ⟨?_, hrow h.rrow (by decide) (hty h.rrow (by decide)), hrow h.drow (by decide) (hty h.drow (by decide)), ?_, h.two⟩
    · rw [row_setC eC]; rfl
    · rw [List.length_append, vcells_app]
      exact own_same hown fun k hk => hset k (fun e2 => by subst e2; exact hng2 hk)
  · rw [hset k hne, hg.block k hk (fun e => ?_)]
    obtain ⟨q1, _, cs, q3⟩ := own_block h.vrow e.symm
    exact absurd rfl (ht q1 cs _ _ q3).2
end Go.Proofs.YtbicfjimlpdnkaaGreatDoor

namespace Go.Proofs.YtbicfjimlpdnkaaGreatDoor
open Go.RowKit
/-- A column that lies somewhere. -/
structure Cl where
  id : Int
  ra : Option Addr
  rs : List Int
  rc : Nat
  da : Option Addr
  ds : List Int
  dc : Nat
  va : Option Addr
  vs : List Vl
  vc : Nat
abbrev Cl.val (c : Cl) : Value := colV c.id c.ra c.rs.length c.rc c.da c.ds.length c.dc c.va c.vs.length c.vc
/-- Its rows lie in a world. -/
structure Cl.At (w : World) (c : Cl) : Prop where
  r : Lies w c.ra (i64s c.rs)
  d : Lies w c.da (i64s c.ds)
  v : LiesV w c.va c.vs
theorem Cl.At.keep {w w' : World} {c : Cl} (h : c.At w) (hb : Below w.heap.size w w') : c.At w' := ⟨h.r.keep hb, h.d.keep hb, h.v.keep hb⟩
/-- Its rows lie in blocks from one on. -/
structure Cl.Fr (N : Nat) (c : Cl) : Prop where
  r : ∀ p, c.ra = some p → N ≤ p.block
  d : ∀ p, c.da = some p → N ≤ p.block
  v : ∀ p, c.va = some p → N ≤ p.block
theorem Cl.At.off {w : World} {c : Cl} {N : Nat} (h : c.At w) (hf : c.Fr N) {g j : Nat} {v : Value} (hg : g < N) : c.At (w.setCell ⟨g, j, none⟩ v) :=
  ⟨h.r.off fun p hp => Nat.lt_of_lt_of_le hg (hf.r p hp), h.d.off fun p hp => Nat.lt_of_lt_of_le hg (hf.d p hp), h.v.off fun p hp => Nat.lt_of_lt_of_le hg (hf.v p hp)⟩
/-- Where a slice of columns lies. -/
def LiesC (w : World) (a : Option Addr) (cs : List Cl) : Prop := ∀ j (h : j < cs.length), (∃ b o, a = some ⟨b, o, none⟩ ∧ w.cell? ⟨b, o + j * 4, none⟩ = some (.int .i64 cs[j].id) ∧ w.cell? ⟨b, o + j * 4 + 1, none⟩ = some (.slice cs[j].ra cs[j].rs.length cs[j].rc) ∧ w.cell? ⟨b, o + j * 4 + 2, none⟩ = some (.slice cs[j].da cs[j].ds.length cs[j].dc) ∧ w.cell? ⟨b, o + j * 4 + 3, none⟩ = some (.slice cs[j].va cs[j].vs.length cs[j].vc)) ∧ cs[j].At w
theorem LiesC.keep {w w' : World} {a : Option Addr} {cs : List Cl} (h : LiesC w a cs) (hb : Below w.heap.size w w') : LiesC w' a cs := fun j hj => by
  obtain ⟨⟨b, o, e, h0, h1, h2, h3⟩, h4⟩ := h j hj
  exact ⟨⟨b, o, e, (hb.cell (World.block_lt_of_cell? w _ h0)).trans h0, (hb.cell (World.block_lt_of_cell? w _ h1)).trans h1, (hb.cell (World.block_lt_of_cell? w _ h2)).trans h2, (hb.cell (World.block_lt_of_cell? w _ h3)).trans h3⟩, h4.keep hb⟩
def jR (cs : List Cl) : List Int := cs.flatMap (·.rs)
def jD (cs : List Cl) : List Int := cs.flatMap (·.ds)
def jV (cs : List Cl) : List Vl := cs.flatMap (·.vs)
theorem jR_succ {cs : List Cl} {i : Nat} (h : i < cs.length) : jR (cs.take (i + 1)) = jR (cs.take i) ++ cs[i].rs := by rw [jR, jR, List.take_succ_eq_append_getElem h, List.flatMap_append]; simp
theorem jD_succ {cs : List Cl} {i : Nat} (h : i < cs.length) : jD (cs.take (i + 1)) = jD (cs.take i) ++ cs[i].ds := by rw [jD, jD, List.take_succ_eq_append_getElem h, List.flatMap_append]; simp
theorem jV_succ {cs : List Cl} {i : Nat} (h : i < cs.length) : jV (cs.take (i + 1)) = jV (cs.take i) ++ cs[i].vs := by rw [jV, jV, List.take_succ_eq_append_getElem h, List.flatMap_append]; simp
theorem jR_split (cs : List Cl) (i : Nat) : jR cs = jR (cs.take i) ++ jR (cs.drop i) := by simp [jR, ← List.flatMap_append]
theorem jD_split (cs : List Cl) (i : Nat) : jD cs = jD (cs.take i) ++ jD (cs.drop i) := by simp [jD, ← List.flatMap_append]
theorem jV_split (cs : List Cl) (i : Nat) : jV cs = jV (cs.take i) ++ jV (cs.drop i) := by simp [jV, ← List.flatMap_append]
theorem jR_le (cs : List Cl) (i : Nat) : (jR (cs.take i)).length ≤ (jR cs).length := by rw [jR_split cs i, List.length_append]; omega
theorem jD_le (cs : List Cl) (i : Nat) : (jD (cs.take i)).length ≤ (jD cs).length := by rw [jD_split cs i, List.length_append]; omega
theorem jV_le (cs : List Cl) (i : Nat) : (jV (cs.take i)).length ≤ (jV cs).length := by rw [jV_split cs i, List.length_append]; omega
/-- What the loop of 'joined' holds. -/
def JnI (W w2 : World) (lid : Int) (cs : List Cl) (i : Nat) (wr : World) : Prop := (∃ rv dv vv, AcI (W.heap.size + 1 + 1) (W.heap.size + 1 + 1 + 1) lid rv (jR (cs.take i)) dv (jD (cs.take i)) vv (jV (cs.take i)) wr) ∧ DFr (W.heap.size + 1 + 1) (W.heap.size + 1 + 1 + 1) w2 wr
/-- Rows with room. -/
def Cl.Cap (k : Cl) : Prop := k.rs.length ≤ k.rc ∧ k.ds.length ≤ k.dc ∧ k.vs.length ≤ k.vc
set_option maxRecDepth 100000 in
set_option maxHeartbeats 6400000 in
theorem joined_cap (lid kind mr md : Int) (pa : Option Addr) (pn pc : Nat) (a : Option Addr) (c : Nat) (cs : List Cl) (W : World) (hn : cs.length ≤ 1048576) (hjr : (jR cs).length ≤ 1048576) (hjd : (jD cs).length ≤ 1048576) (hjv : (jV cs).length ≤ 1048576) (hl : LiesC W a cs) :
    Calls Tryz.prog 90 #[leafV lid kind mr md pa pn pc, .slice a cs.length c] W fun e w' => (∃ k : Cl, e = .returned k.val ∧ k.At w' ∧ k.Fr W.heap.size ∧ k.id = lid ∧ k.rs = jR cs ∧ k.ds = jD cs ∧ k.vs = jV cs ∧ k.Cap) ∧ Below W.heap.size W w' := by
  obtain ⟨iv, hvi, hv0, hv1, hv2⟩ := info_parts Tryz.info3
  obtain ⟨iw, hwi, hw0, hw1, hw2⟩ := info_parts Tryz.infoV
  unfold leafV
  obtain ⟨w0, HW0, HX, HY, HB⟩ := two_boxes W #[.int .i64 lid, .int .i64 kind, .int .i64 mr, .int .i64 md, .slice pa pn pc] #[.int .i64 0, .slice none 0 0, .slice none 0 0, .slice none 0 0] 67 42
  have hz : w0.heap.size = W.heap.size + 1 + 1 := by rw [← HW0.out]; simp
  obtain ⟨w2, HW2⟩ : ∃ w2, Hid (w0.alloc (.cells #[.int .i64 lid, .slice none 0 0, .slice none 0 0, .slice none 0 0] 42) = w2) := ⟨_, rfl⟩
  have hz2 : w2.heap.size = W.heap.size + 1 + 1 + 1 := by rw [← HW2.out]; simp [hz]
  have HA : Hid (w2.heap[W.heap.size + 1 + 1]? = some (.cells #[.int .i64 lid, .slice none 0 0, .slice none 0 0, .slice none 0 0] 42 (0, 0))) := (by
    have h := heap_alloc_new w0 (.cells #[.int .i64 lid, .slice none 0 0, .slice none 0 0, .slice none 0 0] 42)
    rw [hz, HW2.out] at h
    exact h)
  have HB2 : Hid (Below W.heap.size W w2) := (by
    have h := HB.out.alloc HB.out.size (.cells #[.int .i64 lid, .slice none 0 0, .slice none 0 0, .slice none 0 0] 42)
    rw [HW2.out] at h
    exact h)
  have HY2 : Hid (w2.heap[W.heap.size + 1]? = some (.cells #[.int .i64 0, .slice none 0 0, .slice none 0 0, .slice none 0 0] 42 (0, 0))) := (by
    have h := blk_alloc (o' := .cells #[.int .i64 lid, .slice none 0 0, .slice none 0 0, .slice none 0 0] 42) HY.out
    rw [HW2.out] at h
    exact h)
  have HL : Hid (∀ wr, DFr (W.heap.size + 1 + 1) (W.heap.size + 1 + 1 + 1) w2 wr → LiesC wr a cs) := fun wr hd => hl.keep (HB2.out.trans (hd.below (by omega) (by omega) (by omega)))
  have HZ2 : Hid _ := hz2
  have p0 := (row_five HX.out).1.1
  clear hl hz hz2
  go_enter Tryz.func90, Tryz.ntmps90
  go_wp2
  rw [HW0.out, HW2.out]
  clear p0
  go_loopw [13] (fun x wr => ∃ i : Nat, i ≤ cs.length ∧ x = .int .i64 i ∧ Hid (JnI W w2 lid cs i wr)) (fun x _ => cs.length - (intOf x).toNat)
  case atStart => exact ⟨0, Nat.zero_le _, rfl, ⟨_, _, _, AcI.start HA.out⟩, DFr.refl _ _ _⟩
  case round =>
    obtain ⟨i, hi, rfl, HJ⟩ := hrel
    have hsz : W.heap.size + 1 + 1 + 1 ≤ wr.heap.size := by have := HJ.out.2.size; rw [HZ2.out] at this; exact this
    obtain ⟨rv, dv, vv, hI⟩ := HJ.out.1
    obtain ⟨ra, rc, rfl⟩ := own_slC hI.rrow
    obtain ⟨da, dc, rfl⟩ := own_slC hI.drow
    obtain ⟨va, vc, rfl⟩ := own_slC hI.vrow
    have HI : Hid _ := hI
    clear hI
    by_cases hlt : i < cs.length
    · obtain ⟨⟨b, o, rfl, c0, c1, c2, c3⟩, hat⟩ := HL.out wr HJ.out.2 i hlt
      have HAT : Hid (∀ X, DFr (W.heap.size + 1 + 1) (W.heap.size + 1 + 1 + 1) w2 X → cs[i].At X) := fun X hX => (HL.out X hX i hlt).2
      have HJr : Hid (jR (cs.take (i + 1)) = jR (cs.take i) ++ cs[i].rs) := jR_succ hlt
      have HJd : Hid (jD (cs.take (i + 1)) = jD (cs.take i) ++ cs[i].ds) := jD_succ hlt
      have HJv : Hid (jV (cs.take (i + 1)) = jV (cs.take i) ++ cs[i].vs) := jV_succ hlt
      have HLr : Hid ((jR (cs.take i)).length + cs[i].rs.length ≤ 1048576) := (by have h := jR_le cs (i + 1); rw [HJr.out, List.length_append] at h; show _ ≤ _; omega)
      have HLd : Hid ((jD (cs.take i)).length + cs[i].ds.length ≤ 1048576) := (by have h := jD_le cs (i + 1); rw [HJd.out, List.length_append] at h; show _ ≤ _; omega)
      have HLv : Hid ((jV (cs.take i)).length + cs[i].vs.length ≤ 1048576) := (by have h := jV_le cs (i + 1); rw [HJv.out, List.length_append] at h; show _ ≤ _; omega)
      generalize cs[i] = k at *
      clear hat
      have hne : wr.heap.size ≠ W.heap.size + 1 + 1 := by omega
      have HB0 : Hid (Below wr.heap.size wr (wr.alloc (.cells #[.int .i64 k.id, .slice k.ra k.rs.length k.rc, .slice k.da k.ds.length k.dc, .slice k.va k.vs.length k.vc] 42))) := (Below.refl _ _).alloc (Nat.le_refl _) _
      have HI0 : Hid _ := HI.out.stay HB0.out
      have HD0 : Hid (DFr (W.heap.size + 1 + 1) (W.heap.size + 1 + 1 + 1) w2 _) := HJ.out.2.trans (.of_below HB0.out)
      have HC0 : Hid _ := heap_alloc_new wr (.cells #[.int .i64 k.id, .slice k.ra k.rs.length k.rc, .slice k.da k.ds.length k.dc, .slice k.va k.vs.length k.vc] 42)
      obtain ⟨g0, g1, g2, g3⟩ := row_four HI0.out.cell
      go_wp2_with (first
        | (at_builtin; refine wpList_append_any _ rfl _ _ 36 rfl (W.heap.size + 1 + 1 + 1) 3 iv (.int .i64 0) 1 8 Tryz.underlying36 hvi hv0 hv1 hv2 rfl (by decide) _ _ (i64s (jR (cs.take i))) rfl HI0.out.rrow k.ra k.rs.length k.rc (i64s k.rs) rfl (by rw [i64s_len, Nat.mul_one]) (news_i (HAT.out _ HD0.out).r) (one_i _) (by have := HLr.out; unfold maxLen; omega) (by have := HLr.out; omega) (by have h5 := HD0.out.size; rw [HZ2.out] at h5; exact h5) ?_; intro v1 x1 hown1 hg1 hw1; obtain ⟨k1, k2, k3⟩ := AcI.appR HI0.out hown1 hg1 hw1; obtain ⟨a1, e1, rfl⟩ := own_slC hown1; have HI1 : Hid _ := k2; have HD1 : Hid (DFr (W.heap.size + 1 + 1) (W.heap.size + 1 + 1 + 1) w2 _) := HD0.out.trans k3; have HC1 : Hid _ := k3.box HC0.out hne (by decide); clear hown1 hg1 hw1 k2 k3 g0 g1 g2 g3; obtain ⟨g0, g1, g2, g3⟩ := row_four k1; obtain ⟨f0, f1, f2, f3⟩ := row_fourA k1; obtain ⟨d0, d1, d2, d3⟩ := row_four HC1.out; clear k1)
        | (at_builtin; refine wpList_append_any _ rfl _ _ 36 rfl (W.heap.size + 1 + 1 + 1) 3 iv (.int .i64 0) 1 8 Tryz.underlying36 hvi hv0 hv1 hv2 rfl (by decide) _ _ (i64s (jD (cs.take i))) rfl HI1.out.drow k.da k.ds.length k.dc (i64s k.ds) rfl (by rw [i64s_len, Nat.mul_one]) (news_i (HAT.out _ HD1.out).d) (one_i _) (by have := HLd.out; unfold maxLen; omega) (by have := HLd.out; omega) (by have h5 := HD1.out.size; rw [HZ2.out] at h5; exact h5) ?_; intro v2 x2 hown2 hg2 hw2; obtain ⟨k1, k2, k3⟩ := AcI.appD HI1.out hown2 hg2 hw2; obtain ⟨a2, e2, rfl⟩ := own_slC hown2; have HI2 : Hid _ := k2; have HD2 : Hid (DFr (W.heap.size + 1 + 1) (W.heap.size + 1 + 1 + 1) w2 _) := HD1.out.trans k3; have HC2 : Hid _ := k3.box HC1.out hne (by decide); clear hown2 hg2 hw2 k2 k3 g0 g1 g2 g3; obtain ⟨g0, g1, g2, g3⟩ := row_four k1; obtain ⟨f0, f1, f2, f3⟩ := row_fourA k1; obtain ⟨d0, d1, d2, d3⟩ := row_four HC2.out; clear k1)
        | (at_builtin; refine wpList_append_any _ rfl _ _ 40 rfl (W.heap.size + 1 + 1 + 1) 56 iw (.agg #[.int .i64 0, .int .i64 0, .string ⟨#[]⟩]) 3 32 Tryz.underlying40 hwi hw0 hw1 hw2 rfl (by decide) _ _ (vcells (jV (cs.take i))) rfl HI2.out.vrow k.va k.vs.length k.vc (vcells k.vs) rfl (vcells_len _) (news_v (HAT.out _ HD2.out).v) (one_v _) (by have := HLv.out; unfold maxLen; omega) (by have := HLv.out; omega) (by have h5 := HD2.out.size; rw [HZ2.out] at h5; exact h5) ?_; intro v3 x3 hown3 hg3 hw3; obtain ⟨k1, k2, k3⟩ := AcI.appV HI2.out hown3 hg3 hw3; obtain ⟨a3, e3, rfl⟩ := own_slC hown3; have HI3 : Hid _ := k2; have HD3 : Hid (DFr (W.heap.size + 1 + 1) (W.heap.size + 1 + 1 + 1) w2 _) := HD2.out.trans k3; have HC3 : Hid _ := k3.box HC2.out hne (by decide); clear hown3 hg3 hw3 k2 k3 g0 g1 g2 g3; obtain ⟨g0, g1, g2, g3⟩ := row_four k1; obtain ⟨f0, f1, f2, f3⟩ := row_fourA k1; obtain ⟨d0, d1, d2, d3⟩ := row_four HC3.out; clear k1))
      go_roundw
      case rel => exact ⟨i + 1, by omega, by go_num, ⟨_, _, _, by rw [HJr.out, HJd.out, HJv.out]; exact HI3.out⟩, HD3.out⟩
      case measure => simp [intOf]; omega
    · obtain rfl : i = cs.length := by omega
      obtain ⟨g0, g1, g2, g3⟩ := row_four HI.out.cell
      have hy := HJ.out.2.box HY2.out (by omega) (by decide)
      obtain ⟨z0, z1, z2, z3⟩ := row_four hy
      obtain ⟨f0, f1, f2, f3⟩ := row_fourA hy
      have HYr : Hid _ := hy
      clear hy
      go_wp2
      have f1 := own_fresh HI.out.rrow rfl
      have f2 := own_fresh HI.out.drow rfl
      have f3 := own_fresh HI.out.vrow rfl
      have f1' : ∀ p, ra = some p → W.heap.size + 1 < p.block := fun p hp => by have := f1 p hp; omega
      have f2' : ∀ p, da = some p → W.heap.size + 1 < p.block := fun p hp => by have := f2 p hp; omega
      have f3' : ∀ p, va = some p → W.heap.size + 1 < p.block := fun p hp => by have := f3 p hp; omega
      have l1 : Lies wr ra (i64s (jR (cs.take cs.length))) := by
        obtain ⟨a', c', he, hl⟩ := lies_own HI.out.rrow
        injection he with e1 _ _; subst e1; exact hl
      have l2 : Lies wr da (i64s (jD (cs.take cs.length))) := by
        obtain ⟨a', c', he, hl⟩ := lies_own HI.out.drow
        injection he with e1 _ _; subst e1; exact hl
      have l3 : LiesV wr va (jV (cs.take cs.length)) := by
        obtain ⟨a', c', he, hl⟩ := liesV_own HI.out.vrow
        injection he with e1 _ _; subst e1; exact hl
      rw [List.take_length] at l1 l2 l3
      have cap1 : (jR cs).length ≤ rc := by have h := own_capJ HI.out.rrow; rw [List.take_length] at h; simpa using h
      have cap2 : (jD cs).length ≤ dc := by have h := own_capJ HI.out.drow; rw [List.take_length] at h; simpa using h
      have cap3 : (jV cs).length ≤ vc := by have h := own_capJ HI.out.vrow; rw [List.take_length] at h; simpa using h
      have hbw : Below W.heap.size W wr := HB2.out.trans (HJ.out.2.below (by have := HZ2.out; omega) (by omega) (by omega))
      exact bodyPost_ret (v := .agg #[.int .i64 lid, .slice ra (jR cs).length rc, .slice da (jD cs).length dc, .slice va (jV cs).length vc]) (results_cell_row Tryz.results90 _ _ (W.heap.size + 1) 42 #[.int .i64 lid, .slice ra (jR cs).length rc, .slice da (jD cs).length dc, .slice va (jV cs).length vc] (0, 0) _ rfl (row_setCell (row_setCell (row_setCell (row_setCell HYr.out _) _) _) _) Tryz.underlying42 rfl (by kernel_rfl)) rfl ⟨⟨⟨lid, ra, jR cs, rc, da, jD cs, dc, va, jV cs, vc⟩, rfl, ⟨(((l1.off f1').off f1').off f1').off f1', (((l2.off f2').off f2').off f2').off f2', (((l3.off f3').off f3').off f3').off f3'⟩, ⟨fun p hp => by have := f1' p hp; omega, fun p hp => by have := f2' p hp; omega, fun p hp => by have := f3' p hp; omega⟩, rfl, rfl, rfl, rfl, ⟨cap1, cap2, cap3⟩⟩, (((hbw.setCell (by simp) _).setCell (by simp) _).setCell (by simp) _).setCell (by simp) _⟩
theorem joined_any (lid kind mr md : Int) (pa : Option Addr) (pn pc : Nat) (a : Option Addr) (c : Nat) (cs : List Cl) (W : World) (hn : cs.length ≤ 1048576) (hjr : (jR cs).length ≤ 1048576) (hjd : (jD cs).length ≤ 1048576) (hjv : (jV cs).length ≤ 1048576) (hl : LiesC W a cs) :
    Calls Tryz.prog 90 #[leafV lid kind mr md pa pn pc, .slice a cs.length c] W fun e w' => (∃ k : Cl, e = .returned k.val ∧ k.At w' ∧ k.Fr W.heap.size ∧ k.id = lid ∧ k.rs = jR cs ∧ k.ds = jD cs ∧ k.vs = jV cs) ∧ Below W.heap.size W w' :=
  (joined_cap lid kind mr md pa pn pc a c cs W hn hjr hjd hjv hl).mono fun _ _ h => by
    obtain ⟨⟨k, h1, h2, h3, h4, h5, h6, h7, _⟩, hb⟩ := h
    exact ⟨⟨k, h1, h2, h3, h4, h5, h6, h7⟩, hb⟩
end Go.Proofs.YtbicfjimlpdnkaaGreatDoor

namespace Go.Proofs.YtbicfjimlpdnkaaGreatDoor
open Go.RowKit
/-- All but some blocks are kept. -/
structure AFr (G : List Nat) (W w' : World) : Prop where
  os : w'.os = W.os
  tape : w'.tape = W.tape
  output : w'.output = W.output
  size : W.heap.size ≤ w'.heap.size
  keep : ∀ k, k < W.heap.size → k ∉ G → w'.heap[k]? = W.heap[k]?
theorem AFr.refl (G : List Nat) (W : World) : AFr G W W := ⟨rfl, rfl, rfl, Nat.le_refl _, fun _ _ _ => rfl⟩
theorem AFr.trans {G : List Nat} {W w1 w2 : World} (h : AFr G W w1) (h2 : AFr G w1 w2) : AFr G W w2 :=
  ⟨h2.os.trans h.os, h2.tape.trans h.tape, h2.output.trans h.output, Nat.le_trans h.size h2.size, fun k hk hn => by rw [h2.keep k (Nat.lt_of_lt_of_le hk h.size) hn, h.keep k hk hn]⟩
theorem AFr.of_below {G : List Nat} {W w' : World} (hb : Below W.heap.size W w') : AFr G W w' := ⟨hb.os, hb.tape, hb.output, hb.size, fun k hk _ => hb.block k hk⟩
theorem AFr.more {G H : List Nat} {W w' : World} (h : AFr G W w') (hs : ∀ g ∈ G, g ∈ H) : AFr H W w' := ⟨h.os, h.tape, h.output, h.size, fun k hk hn => h.keep k hk (fun hg => hn (hs k hg))⟩
theorem AFr.drew {G : List Nat} {W w' : World} (h : AFr G W w') (n : Nat) : AFr G W (w'.drewN n) := ⟨h.os, h.tape, h.output, h.size, h.keep⟩
theorem AFr.below {G : List Nat} {N : Nat} {W w' : World} (h : AFr G W w') (hN : N ≤ W.heap.size) (hg : ∀ g ∈ G, N ≤ g) : Below N W w' := ⟨h.os, h.tape, h.output, h.size, fun k hk => h.keep k (by omega) (fun hm => by have := hg k hm; omega)⟩
theorem AFr.box {G : List Nat} {k : Nat} {W w' : World} {o : Obj} (h : AFr G W w') (hk : W.heap[k]? = some o) (hn : k ∉ G) : w'.heap[k]? = some o := (h.keep k (lt_of_block hk) hn).trans hk
theorem AFr.setIn {G : List Nat} {W w' : World} {g j : Nat} {v : Value} (h : AFr G W w') (hg : g ∈ G) : AFr G W (w'.setCell ⟨g, j, none⟩ v) := ⟨h.os, h.tape, h.output, by simpa using h.size, fun k hk hn => (Below.heap_setCell w' ⟨g, j, none⟩ v k (fun e => hn (by rw [e]; exact hg))).trans (h.keep k hk hn)⟩
theorem AFr.setNew {G : List Nat} {W w' : World} {g j : Nat} {v : Value} (h : AFr G W w') (hg : W.heap.size ≤ g) : AFr G W (w'.setCell ⟨g, j, none⟩ v) := ⟨h.os, h.tape, h.output, by simpa using h.size, fun k hk hn => (Below.heap_setCell w' ⟨g, j, none⟩ v k (by show k ≠ g; omega)).trans (h.keep k hk hn)⟩
/-- Its rows lie below. -/
structure Cl.Lw (N : Nat) (c : Cl) : Prop where
  r : 0 < (i64s c.rs).length → ∀ b o, c.ra = some ⟨b, o, none⟩ → b < N
  d : 0 < (i64s c.ds).length → ∀ b o, c.da = some ⟨b, o, none⟩ → b < N
  v : 0 < c.vs.length → ∀ b o, c.va = some ⟨b, o, none⟩ → b < N
theorem Lies.lw {N : Nat} {w w' : World} {a : Option Addr} {cs : List Value} (h : Lies w a cs) (hl : 0 < cs.length → ∀ b o, a = some ⟨b, o, none⟩ → b < N) (hs : ∀ b, b < N → w'.heap[b]? = w.heap[b]?) : Lies w' a cs := fun j hj => by
  obtain ⟨b, o, e, hc⟩ := h j hj
  exact ⟨b, o, e, cell_stay hc (hs b (hl (by omega) b o e))⟩
theorem LiesV.lw {N : Nat} {w w' : World} {a : Option Addr} {cs : List Vl} (h : LiesV w a cs) (hl : 0 < cs.length → ∀ b o, a = some ⟨b, o, none⟩ → b < N) (hs : ∀ b, b < N → w'.heap[b]? = w.heap[b]?) : LiesV w' a cs := fun j hj => by
  obtain ⟨b, o, e, h0, h1, h2⟩ := h j hj
  have hb := hl (by omega) b o e
  exact ⟨b, o, e, cell_stay h0 (hs b hb), cell_stay h1 (hs b hb), cell_stay h2 (hs b hb)⟩
/-- .. what lies somewhere does. -/
theorem Cl.At.lw {w : World} {c : Cl} (h : c.At w) : c.Lw w.heap.size := by
  have key : ∀ (a : Option Addr) (b o b1 o1 : Nat), a = some ⟨b, o, none⟩ → a = some ⟨b1, o1, none⟩ → b = b1 := fun a b o b1 o1 e1 e2 => by
    have e := e1.symm.trans e2
    injection e with e
    injection e
  refine ⟨fun h0 b o e => ?_, fun h0 b o e => ?_, fun h0 b o e => ?_⟩
  · obtain ⟨b1, o1, e1, hc⟩ := h.r 0 h0
    rw [key _ _ _ _ _ e e1]
    exact World.block_lt_of_cell? w _ hc
  · obtain ⟨b1, o1, e1, hc⟩ := h.d 0 h0
    rw [key _ _ _ _ _ e e1]
    exact World.block_lt_of_cell? w _ hc
  · obtain ⟨b1, o1, e1, hc, _⟩ := h.v 0 h0
    rw [key _ _ _ _ _ e e1]
    exact World.block_lt_of_cell? w _ hc
/-- A reader: its column, what it has read, what is left. -/
structure RdS (w : World) (N g : Nat) (c : Cl) (done rem : List Ent) : Prop where
  cell : w.heap[g]? = some (.cells #[.int .i64 c.id, .slice c.ra c.rs.length c.rc, .slice c.da c.ds.length c.dc, .slice c.va c.vs.length c.vc, .int .i64 (done.length : Nat), .int .i64 ((eV done).length : Nat)] 115 (0, 0))
  col : c.At w
  r : c.rs = eR (done ++ rem)
  d : c.ds = eD (done ++ rem)
  v : c.vs = eV (done ++ rem)
  len : (done ++ rem).length ≤ 20000
  lw : c.Lw N
  hi : N ≤ g
/-- A reader that has so much left. -/
def RdL (w : World) (N g : Nat) (rem : List Ent) : Prop := ∃ c done, RdS w N g c done rem
theorem RdS.keep {w w' : World} {N g : Nat} {c : Cl} {done rem : List Ent} (h : RdS w N g c done rem) (hg : w'.heap[g]? = w.heap[g]?) (hs : ∀ b, b < N → w'.heap[b]? = w.heap[b]?) : RdS w' N g c done rem :=
  ⟨hg.trans h.cell, ⟨h.col.r.lw h.lw.r hs, h.col.d.lw h.lw.d hs, h.col.v.lw h.lw.v hs⟩, h.r, h.d, h.v, h.len, h.lw, h.hi⟩
theorem RdL.keep {w w' : World} {N g : Nat} {rem : List Ent} (h : RdL w N g rem) (hg : w'.heap[g]? = w.heap[g]?) (hs : ∀ b, b < N → w'.heap[b]? = w.heap[b]?) : RdL w' N g rem := by
  obtain ⟨c, done, h⟩ := h
  exact ⟨c, done, h.keep hg hs⟩
theorem RdL.below {w w' : World} {N g : Nat} {rem : List Ent} (h : RdL w N g rem) (hb : Below w.heap.size w w') : RdL w' N g rem := by
  obtain ⟨c, done, h1⟩ := h
  have hlt := lt_of_block h1.cell
  have hh := h1.hi
  exact ⟨c, done, h1.keep (hb.block g hlt) (fun b hb' => hb.block b (by omega))⟩
theorem row_sixG {w : World} {g e : Nat} {x0 x1 x2 x3 x4 x5 : Value} (h : w.heap[g]? = some (.cells #[x0, x1, x2, x3, x4, x5] e (0, 0))) : w.frozen? ⟨g, 4, none⟩ = false ∧ w.frozen? ⟨g, 5, none⟩ = false := by
  refine ⟨?_, ?_⟩ <;> simp [World.frozen?, h]
/-- The next entry's level. -/
def hdR : List Ent → Int
  | [] => 0
  | e :: _ => e.rep
set_option maxRecDepth 100000 in
set_option maxHeartbeats 1600000 in
theorem ended_any (N g : Nat) (rem : List Ent) (W : World) (h : RdL W N g rem) :
    Calls Tryz.prog (63) #[.pointer (some ⟨g, 0, none⟩)] W fun e w' => e = .returned (.bool (decide (rem = []))) ∧ ∃ m, w' = W.drewN m := by
  obtain ⟨c, done, h⟩ := h
  obtain ⟨p0, p1, p2, p3, p4, p5⟩ := row_six h.cell
  obtain ⟨b, HB⟩ := hid_name (decide (rem = []))
  have q : ((done.length : Int) == (c.rs.length : Int)) = b := by
    rw [← HB.out, h.r, eR_len, List.length_append, Bool.eq_iff_iff, beq_iff_eq, decide_eq_true_iff, ← List.length_eq_zero_iff]
    omega
  have q2 : (done.length == c.rs.length) = b := by
    rw [← q, Bool.eq_iff_iff, beq_iff_eq, beq_iff_eq]
    omega
  rw [HB.out]
  clear h
  go_enter Tryz.func63, Tryz.ntmps63
  go_wp2_with fail
  go_quiet (fail)
  go_wp2
  go_ret
  exact ⟨by first | rfl | (rw [← q]; rfl) | (rw [← q2]; rfl), _, rfl⟩
set_option maxRecDepth 100000 in
set_option maxHeartbeats 1600000 in
theorem arep_any (N g : Nat) (rem : List Ent) (W : World) (h : RdL W N g rem) :
    Calls Tryz.prog (118) #[.pointer (some ⟨g, 0, none⟩)] W fun e w' => e = .returned (.int .i64 (hdR rem)) ∧ ∃ m, w' = W.drewN m := by
  have HE : Hid _ := ended_any N g rem W h
  obtain ⟨c, done, h⟩ := h
  obtain ⟨p0, p1, p2, p3, p4, p5⟩ := row_six h.cell
  cases rem with
  | nil =>
    clear h
    rw [show hdR [] = 0 from rfl]
    rw [show decide (([] : List Ent) = []) = true from rfl] at HE
    go_enter Tryz.func118, Tryz.ntmps118
    go_wp2_with fail
    refine Calls.mono HE.out ?_
    rintro e w1 ⟨rfl, k, rfl⟩
    go_wp2
    go_ret
    exact ⟨rfl, _, rfl⟩
  | cons x t =>
    rw [show decide ((x :: t : List Ent) = []) = false by simp] at HE
    have hlt : done.length < c.rs.length := by rw [h.r, eR_len]; simp
    have hlen : c.rs.length ≤ 20000 := by rw [h.r, eR_len]; exact h.len
    obtain ⟨b, o, hra, hc⟩ := h.col.r done.length (by simpa [i64s] using hlt)
    have hx : (i64s c.rs)[done.length]'(by simpa [i64s] using hlt) = .int .i64 x.rep := by simp [i64s, h.r, eR]
    rw [hx] at hc
    rw [hra] at p1
    obtain ⟨xr, HXr⟩ := hid_name x.rep
    rw [show hdR (x :: t) = x.rep from rfl, HXr.out]
    rw [HXr.out] at hc
    have q0 : (0 : Int) ≤ (done.length : Int) := by omega
    have q1 : (done.length : Int) < (c.rs.length : Int) := by omega
    clear h hx hra
    go_enter Tryz.func118, Tryz.ntmps118
    go_wp2_with fail
    refine Calls.mono HE.out ?_
    rintro e w1 ⟨rfl, k, rfl⟩
    go_wp2_with fail
    go_quiet (fail)
    go_wp2
    go_ret
    exact ⟨rfl, _, World.drewN_drewN _ _ _⟩
set_option maxRecDepth 100000 in
set_option maxHeartbeats 1600000 in
theorem adef_any (N g : Nat) (x : Ent) (t : List Ent) (W : World) (h : RdL W N g (x :: t)) :
    Calls Tryz.prog (117) #[.pointer (some ⟨g, 0, none⟩)] W fun e w' => e = .returned (.int .i64 x.dfn) ∧ ∃ m, w' = W.drewN m := by
  obtain ⟨c, done, h⟩ := h
  obtain ⟨p0, p1, p2, p3, p4, p5⟩ := row_six h.cell
  have hlt : done.length < c.ds.length := by rw [h.d, eD_len]; simp
  have hlen : c.ds.length ≤ 20000 := by rw [h.d, eD_len]; exact h.len
  obtain ⟨b, o, hra, hc⟩ := h.col.d done.length (by simpa [i64s] using hlt)
  have hx : (i64s c.ds)[done.length]'(by simpa [i64s] using hlt) = .int .i64 x.dfn := by simp [i64s, h.d, eD]
  rw [hx] at hc
  rw [hra] at p2
  obtain ⟨xr, HXr⟩ := hid_name x.dfn
  rw [HXr.out]
  rw [HXr.out] at hc
  have q0 : (0 : Int) ≤ (done.length : Int) := by omega
  have q1 : (done.length : Int) < (c.ds.length : Int) := by omega
  clear h hx hra
  go_enter Tryz.func117, Tryz.ntmps117
  go_wp2_with fail
  go_quiet (fail)
  go_wp2
  go_ret
  exact ⟨rfl, _, rfl⟩
set_option maxRecDepth 100000 in
set_option maxHeartbeats 1600000 in
theorem pass_any (N g : Nat) (x : Ent) (t : List Ent) (hv : x.v = none) (W : World) (h : RdL W N g (x :: t)) :
    Calls Tryz.prog (109) #[.pointer (some ⟨g, 0, none⟩)] W fun e w' => e = .returned (.tuple #[]) ∧ RdL w' N g t ∧ AFr [g] W w' := by
  obtain ⟨c, done, h⟩ := h
  obtain ⟨p0, p1, p2, p3, p4, p5⟩ := row_six h.cell
  obtain ⟨f4, f5⟩ := row_sixG h.cell
  have HH : Hid (RdS W N g c done (x :: t)) := h
  have hlen : done.length ≤ 20000 := by have := h.len; rw [List.length_append] at this; omega
  have HV : Hid ((eV (done ++ [x])).length = (eV done).length) := (by show _ = _; unfold eV; rw [List.filterMap_append]; simp [hv])
  have HN : Hid (RdS (W.setCell ⟨g, 4, none⟩ (.int .i64 ((done.length : Int) + 1))) N g c (done ++ [x]) t) := (by
    have e : done ++ (x :: t) = (done ++ [x]) ++ t := by simp
    have hst : ∀ b, b < N → (W.setCell ⟨g, 4, none⟩ (.int .i64 ((done.length : Int) + 1))).heap[b]? = W.heap[b]? := fun b hb => Below.heap_setCell W ⟨g, 4, none⟩ _ b (by have := h.hi; show b ≠ g; omega)
    refine ⟨?_, ⟨h.col.r.lw h.lw.r hst, h.col.d.lw h.lw.d hst, h.col.v.lw h.lw.v hst⟩, by rw [← e]; exact h.r, by rw [← e]; exact h.d, by rw [← e]; exact h.v, by rw [← e]; exact h.len, h.lw, h.hi⟩
    rw [HV.out, List.length_append]
    exact row_setC h.cell)
  clear h
  go_enter Tryz.func109, Tryz.ntmps109
  go_wp2
  go_end0
  exact ⟨rfl, ⟨c, _, HN.out⟩, (AFr.refl _ _).setIn (by simp)⟩
end Go.Proofs.YtbicfjimlpdnkaaGreatDoor
