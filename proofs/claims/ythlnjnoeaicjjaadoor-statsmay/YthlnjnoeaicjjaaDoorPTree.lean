/-
  Schemas as trees (api.Node), and where they lie: the words, without the program.
-/
import Derived.Test.YthlnjnoeaicjjaaDoorPBVal
import Derived.RowKit
namespace Go.Proofs.YthlnjnoeaicjjaaDoor
open Go.RowKit
/-- A node of a schema. -/
inductive Tr where
  | node (id : Int) (nm : ByteArray) (rep kind : Int) (sub : List Tr)
def Tr.id : Tr → Int | .node i _ _ _ _ => i
def Tr.nm : Tr → ByteArray | .node _ s _ _ _ => s
def Tr.rep : Tr → Int | .node _ _ r _ _ => r
def Tr.kind : Tr → Int | .node _ _ _ k _ => k
def Tr.sub : Tr → List Tr | .node _ _ _ _ l => l
/-- A tree whose lists and names are not too long. -/
inductive Tr.Sm : Tr → Prop where
  | mk (id : Int) (nm : ByteArray) (rep kind : Int) (sub : List Tr) (hi : -9223372036854775808 ≤ id ∧ id ≤ 9223372036854775807) (hs : nm.size ≤ 1048576) (hl : sub.length ≤ 1048576) (each : ∀ j (h : j < sub.length), Tr.Sm sub[j]) : Tr.Sm (.node id nm rep kind sub)
theorem Tr.Sm.len {t : Tr} (h : t.Sm) : t.sub.length ≤ 1048576 := by cases h with | mk id nm rep kind sub hi hs hl each => exact hl
theorem Tr.Sm.nm {t : Tr} (h : t.Sm) : t.nm.size ≤ 1048576 := by cases h with | mk id nm rep kind sub hi hs hl each => exact hs
theorem Tr.Sm.at_ {t : Tr} (h : t.Sm) (j : Nat) (hj : j < t.sub.length) : t.sub[j].Sm := by cases h with | mk id nm rep kind sub hi hs hl each => exact each j hj
/-- A tree that is at most so deep. -/
inductive Tr.Dp : Nat → Tr → Prop where
  | mk (n : Nat) (id : Int) (nm : ByteArray) (rep kind : Int) (sub : List Tr) (each : ∀ j (h : j < sub.length), Tr.Dp n sub[j]) : Tr.Dp (n + 1) (.node id nm rep kind sub)
theorem Tr.Dp.at_ {n : Nat} {t : Tr} (h : Tr.Dp (n + 1) t) (j : Nat) (hj : j < t.sub.length) : Tr.Dp n t.sub[j] := by cases h with | mk n id nm rep kind sub each => exact each j hj
theorem Tr.Dp.pos {n : Nat} {t : Tr} (h : Tr.Dp n t) : 0 < n := by cases h with | mk n id nm rep kind sub each => omega
/-- The cells of a node at a place of a slice, in a block of some sort. -/
def NodeAt (W : World) (P : Nat → Prop) (a : Option Addr) (j : Nat) (cs : List Value) : Prop :=
  ∃ b o x0 x1 x2 x3 x4, a = some ⟨b, o, none⟩ ∧ P b ∧ cs = [x0, x1, x2, x3, x4] ∧ W.cell? ⟨b, o + j * 5, none⟩ = some x0 ∧ W.cell? ⟨b, o + j * 5 + 1, none⟩ = some x1 ∧ W.cell? ⟨b, o + j * 5 + 2, none⟩ = some x2 ∧ W.cell? ⟨b, o + j * 5 + 3, none⟩ = some x3 ∧ W.cell? ⟨b, o + j * 5 + 4, none⟩ = some x4
/-- The five cells of a node, whose nodes lie in the world, in blocks of some sort. -/
inductive NodeC (W : World) (P : Nat → Prop) : Tr → List Value → Prop where
  | mk (id : Int) (nm : ByteArray) (rep kind : Int) (sub : List Tr) (a : Option Addr) (c : Nat) (hc : sub.length ≤ c) (F : Nat → List Value)
      (cells : ∀ j, j < sub.length → NodeAt W P a j (F j)) (each : ∀ j (h : j < sub.length), NodeC W P sub[j] (F j)) :
      NodeC W P (.node id nm rep kind sub) [.int .i64 id, .string nm, .int .i64 rep, .int .i64 kind, .slice a sub.length c]
/-- Nodes that lie in a slice. -/
def LiesN (W : World) (P : Nat → Prop) (a : Option Addr) (ts : List Tr) : Prop := ∃ F : Nat → List Value, (∀ j, j < ts.length → NodeAt W P a j (F j)) ∧ ∀ j (h : j < ts.length), NodeC W P ts[j] (F j)
theorem cell_stay {W W' : World} {b o : Nat} {x : Value} (h : W.cell? ⟨b, o, none⟩ = some x) (hs : W'.heap[b]? = W.heap[b]?) : W'.cell? ⟨b, o, none⟩ = some x := by
  rw [← h]
  simp only [World.cell?, hs]
/-- What lies in blocks of some sort is there, of a sort that is wider, in each world where they are the same. -/
theorem NodeAt.stay {W W' : World} {P Q : Nat → Prop} {a : Option Addr} {j : Nat} {cs : List Value} (h : NodeAt W P a j cs) (hPQ : ∀ b, P b → b < W.heap.size → Q b) (hs : ∀ b, P b → b < W.heap.size → W'.heap[b]? = W.heap[b]?) : NodeAt W' Q a j cs := by
  obtain ⟨b, o, x0, x1, x2, x3, x4, e, hp, ecs, h0, h1, h2, h3, h4⟩ := h
  have hlt : b < W.heap.size := World.block_lt_of_cell? W _ h0
  have hb := hs b hp hlt
  exact ⟨b, o, x0, x1, x2, x3, x4, e, hPQ b hp hlt, ecs, cell_stay h0 hb, cell_stay h1 hb, cell_stay h2 hb, cell_stay h3 hb, cell_stay h4 hb⟩
theorem NodeC.stay {W W' : World} {P Q : Nat → Prop} (hPQ : ∀ b, P b → b < W.heap.size → Q b) (hs : ∀ b, P b → b < W.heap.size → W'.heap[b]? = W.heap[b]?) {t : Tr} {cs : List Value} (h : NodeC W P t cs) : NodeC W' Q t cs := by
  induction h with
  | mk id nm rep kind sub a c hc F cells each ih => exact .mk id nm rep kind sub a c hc F (fun j hj => (cells j hj).stay hPQ hs) ih
theorem LiesN.stay {W W' : World} {P Q : Nat → Prop} {a : Option Addr} {ts : List Tr} (h : LiesN W P a ts) (hPQ : ∀ b, P b → b < W.heap.size → Q b) (hs : ∀ b, P b → b < W.heap.size → W'.heap[b]? = W.heap[b]?) : LiesN W' Q a ts := by
  obtain ⟨F, h1, h2⟩ := h
  exact ⟨F, fun j hj => (h1 j hj).stay hPQ hs, fun j hj => (h2 j hj).stay hPQ hs⟩
theorem NodeC.keep {W W' : World} {P : Nat → Prop} (hb : Below W.heap.size W W') {t : Tr} {cs : List Value} (h : NodeC W P t cs) : NodeC W' P t cs := h.stay (fun _ h _ => h) (fun b _ hl => hb.block b hl)
theorem LiesN.keep {W W' : World} {P : Nat → Prop} {a : Option Addr} {ts : List Tr} (h : LiesN W P a ts) (hb : Below W.heap.size W W') : LiesN W' P a ts := h.stay (fun _ h _ => h) (fun b _ hl => hb.block b hl)
/-- A node's cells, in its own words. -/
theorem NodeC.split {W : World} {P : Nat → Prop} {t : Tr} {cs : List Value} (h : NodeC W P t cs) : ∃ a c, cs = [.int .i64 t.id, .string t.nm, .int .i64 t.rep, .int .i64 t.kind, .slice a t.sub.length c] ∧ LiesN W P a t.sub := by
  cases h with
  | mk id nm rep kind sub a c hc F cells each => exact ⟨a, c, rfl, F, cells, each⟩
/-- What lies at a place of a slice of nodes. -/
theorem LiesN.at_ {W : World} {P : Nat → Prop} {a : Option Addr} {ts : List Tr} (h : LiesN W P a ts) (j : Nat) (hj : j < ts.length) : ∃ b o a' c', a = some ⟨b, o, none⟩ ∧ W.cell? ⟨b, o + j * 5, none⟩ = some (.int .i64 ts[j].id) ∧ W.cell? ⟨b, o + j * 5 + 1, none⟩ = some (.string ts[j].nm) ∧ W.cell? ⟨b, o + j * 5 + 2, none⟩ = some (.int .i64 ts[j].rep) ∧ W.cell? ⟨b, o + j * 5 + 3, none⟩ = some (.int .i64 ts[j].kind) ∧ W.cell? ⟨b, o + j * 5 + 4, none⟩ = some (.slice a' ts[j].sub.length c') ∧ LiesN W P a' ts[j].sub := by
  obtain ⟨F, h1, h2⟩ := h
  obtain ⟨b, o, x0, x1, x2, x3, x4, e, _, ecs, q0, q1, q2, q3, q4⟩ := h1 j hj
  obtain ⟨a', c', e', hl⟩ := (h2 j hj).split
  rw [ecs] at e'
  simp only [List.cons.injEq, and_true] at e'
  obtain ⟨rfl, rfl, rfl, rfl, rfl⟩ := e'
  exact ⟨b, o, a', c', e, q0, q1, q2, q3, q4, hl⟩
/-- The first so many of them. -/
theorem LiesN.take {W : World} {P : Nat → Prop} {a : Option Addr} {ts : List Tr} (h : LiesN W P a ts) (k : Nat) : LiesN W P a (ts.take k) := by
  obtain ⟨F, h1, h2⟩ := h
  refine ⟨F, fun j hj => h1 j ?_, fun j hj => ?_⟩
  · rw [List.length_take] at hj; omega
  · rw [List.getElem_take]; exact h2 j _
end Go.Proofs.YthlnjnoeaicjjaaDoor
