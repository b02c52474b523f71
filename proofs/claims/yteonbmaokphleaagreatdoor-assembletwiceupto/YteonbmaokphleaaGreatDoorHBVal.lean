/-
  Values (api.Value): isValue of the program and IsValue of the reference: what they answer.
  enc.isCount, checkCount, check: which kinds, counts and values are right, and where one is not.
  wire.ReadUvarint answers the number that the mathematics names, and its length, or the error that ErrText holds, for every text.
  Schemas as trees (api.Node), and where they lie: the words, without the program.
  Records as trees (api.Datum), and where they lie: the words, without the program.
-/
import Derived.Test.YteonbmaokphleaaGreatDoorHBase
import Derived.RegionTactic
import Derived.Lib.Strings
import Derived.Test.YteonbmaokphleaaGreatDoorHBMath
import Derived.RowKit
namespace Go.Proofs.YteonbmaokphleaaGreatDoor
open Go.RowKit
theorem ret_b {a b : Bool} (h : a = b) : Ending.returned (.bool a) = .returned (.bool b) := by rw [h]
def OkV (kd k n : Int) (len : Nat) : Prop := k = kd ∧ (kd = 1 ∧ len = 0 ∧ (n = 0 ∨ n = 1) ∨ kd = 2 ∧ len = 0 ∧ -2147483648 ≤ n ∧ n ≤ 2147483647 ∨ (kd = 3 ∨ kd = 5) ∧ len = 0 ∨ kd = 4 ∧ n = 0 ∧ len ≤ 100)
def okV (kd k n : Int) (len : Nat) : Bool := decide (k = kd ∧ (kd = 1 ∧ len = 0 ∧ (n = 0 ∨ n = 1) ∨ kd = 2 ∧ len = 0 ∧ -2147483648 ≤ n ∧ n ≤ 2147483647 ∨ (kd = 3 ∨ kd = 5) ∧ len = 0 ∨ kd = 4 ∧ n = 0 ∧ len ≤ 100))
theorem okV_iff {kd k n : Int} {len : Nat} : okV kd k n len = true ↔ OkV kd k n len := by unfold okV OkV; exact decide_eq_true_iff
theorem toList_nil (s : ByteArray) : s.toList = [] ↔ s.size = 0 := by
 rw [Lib.toList_data, ← List.length_eq_zero_iff, Array.length_toList]; rfl
theorem toList_isEmpty (s : ByteArray) : s.toList.isEmpty = decide (s.size = 0) := by
 rw [Bool.eq_iff_iff, List.isEmpty_iff, toList_nil, decide_eq_true_iff]
set_option maxRecDepth 100000 in
set_option maxHeartbeats 800000 in
theorem isValue_any (k n : Int) (s : ByteArray) (w : World) : Calls Tryz.prog 107 #[.agg #[.int .i64 k, .int .i64 n, .string s]] w fun e w' => e = .returned (.bool (okV k k n s.size)) ∧ Below w.heap.size w w' := by
 go_enter Tryz.func107, Tryz.ntmps107
 go_wp2
 all_goals go_ret
 all_goals refine ⟨ret_b ?_, (Below.refl _ _).alloc (Nat.le_refl _) _⟩
 all_goals (unfold okV; grind [toList_nil, toList_isEmpty])
structure Vl where
 k : Int
 n : Int
 s : ByteArray
def LiesV (w : World) (a : Option Addr) (vs : List Vl) : Prop := ∀ j (h : j < vs.length), ∃ b o, a = some ⟨b, o, none⟩ ∧ w.cell? ⟨b, o + j * 3, none⟩ = some (.int .i64 vs[j].k) ∧ w.cell? ⟨b, o + j * 3 + 1, none⟩ = some (.int .i64 vs[j].n) ∧ w.cell? ⟨b, o + j * 3 + 2, none⟩ = some (.string vs[j].s)
theorem LiesV.keep {w w' : World} {a : Option Addr} {vs : List Vl} (h : LiesV w a vs) (hb : Below w.heap.size w w') : LiesV w' a vs := fun j hj => by
 obtain ⟨b, o, e, h0, h1, h2⟩ := h j hj
 exact ⟨b, o, e, (hb.cell (World.block_lt_of_cell? w _ h0)).trans h0, (hb.cell (World.block_lt_of_cell? w _ h1)).trans h1, (hb.cell (World.block_lt_of_cell? w _ h2)).trans h2⟩
theorem cell_alloc_at {w : World} {cs : Array Value} {T : TypeId} {i b : Nat} {v : Value} (h : cs[i]? = some v) (hb : b = w.heap.size) : (w.alloc (.cells cs T)).cell? ⟨b, i, none⟩ = some v := by
 subst hb
 rw [cell_of_row _ w.heap.size i _ T (0, 0) (heap_alloc_new w _)]
 exact h
def Vl.Ok (kd : Int) (v : Vl) : Prop := OkV kd v.k v.n v.s.size
def Fsh (N : Nat) (a : Option Addr) : Prop := ∀ p, a = some p → N ≤ p.block
theorem Fsh.at {N g o : Nat} (h : N ≤ g) : Fsh N (some ⟨g, o, none⟩) := fun p e => by
 injection e with e
 subst e
 exact h
theorem Fsh.low {N M : Nat} {a : Option Addr} (h : Fsh N a) (hm : M ≤ N) : Fsh M a := fun p e => Nat.le_trans hm (h p e)
def acc (n b k : Nat) : Nat := n ||| (b % 128 * 2 ^ (7 * k) % 18446744073709551616)
inductive Tr where
 | node (id : Int) (nm : ByteArray) (rep kind : Int) (sub : List Tr)
def Tr.id : Tr → Int | .node i _ _ _ _ => i
def Tr.nm : Tr → ByteArray | .node _ s _ _ _ => s
def Tr.rep : Tr → Int | .node _ _ r _ _ => r
def Tr.kind : Tr → Int | .node _ _ _ k _ => k
def Tr.sub : Tr → List Tr | .node _ _ _ _ l => l
inductive Tr.Sm : Tr → Prop where
 | mk (id : Int) (nm : ByteArray) (rep kind : Int) (sub : List Tr) (hi : -9223372036854775808 ≤ id ∧ id ≤ 9223372036854775807) (hs : nm.size ≤ 1048576) (hl : sub.length ≤ 1048576) (each : ∀ j (h : j < sub.length), Tr.Sm sub[j]) : Tr.Sm (.node id nm rep kind sub)
theorem Tr.Sm.id_ {t : Tr} (h : t.Sm) : -9223372036854775808 ≤ t.id ∧ t.id ≤ 9223372036854775807 := by cases h with | mk id nm rep kind sub hi hs hl each => exact hi
theorem Tr.Sm.len {t : Tr} (h : t.Sm) : t.sub.length ≤ 1048576 := by cases h with | mk id nm rep kind sub hi hs hl each => exact hl
theorem Tr.Sm.nm {t : Tr} (h : t.Sm) : t.nm.size ≤ 1048576 := by cases h with | mk id nm rep kind sub hi hs hl each => exact hs
theorem Tr.Sm.at_ {t : Tr} (h : t.Sm) (j : Nat) (hj : j < t.sub.length) : t.sub[j].Sm := by cases h with | mk id nm rep kind sub hi hs hl each => exact each j hj
inductive Tr.Dp : Nat → Tr → Prop where
 | mk (n : Nat) (id : Int) (nm : ByteArray) (rep kind : Int) (sub : List Tr) (each : ∀ j (h : j < sub.length), Tr.Dp n sub[j]) : Tr.Dp (n + 1) (.node id nm rep kind sub)
theorem Tr.Dp.at_ {n : Nat} {t : Tr} (h : Tr.Dp (n + 1) t) (j : Nat) (hj : j < t.sub.length) : Tr.Dp n t.sub[j] := by cases h with | mk n id nm rep kind sub each => exact each j hj
theorem Tr.Dp.pos {n : Nat} {t : Tr} (h : Tr.Dp n t) : 0 < n := by cases h with | mk n id nm rep kind sub each => omega
theorem Tr.Dp.up {n : Nat} {t : Tr} (h : Tr.Dp n t) : ∀ m, n ≤ m → Tr.Dp m t := by
 induction h with
 | mk n id nm rep kind sub each ih =>
  intro m hm
  obtain ⟨k, rfl⟩ : ∃ k, m = k + 1 := ⟨m - 1, by omega⟩
  exact .mk k id nm rep kind sub fun j hj => ih j hj k (by omega)
def NodeAt (W : World) (P : Nat → Prop) (a : Option Addr) (j : Nat) (cs : List Value) : Prop :=
 ∃ b o x0 x1 x2 x3 x4, a = some ⟨b, o, none⟩ ∧ P b ∧ cs = [x0, x1, x2, x3, x4] ∧ W.cell? ⟨b, o + j * 5, none⟩ = some x0 ∧ W.cell? ⟨b, o + j * 5 + 1, none⟩ = some x1 ∧ W.cell? ⟨b, o + j * 5 + 2, none⟩ = some x2 ∧ W.cell? ⟨b, o + j * 5 + 3, none⟩ = some x3 ∧ W.cell? ⟨b, o + j * 5 + 4, none⟩ = some x4
inductive NodeC (W : World) (P : Nat → Prop) : Tr → List Value → Prop where
 | mk (id : Int) (nm : ByteArray) (rep kind : Int) (sub : List Tr) (a : Option Addr) (c : Nat) (hc : sub.length ≤ c) (F : Nat → List Value)
     (cells : ∀ j, j < sub.length → NodeAt W P a j (F j)) (each : ∀ j (h : j < sub.length), NodeC W P sub[j] (F j)) :
     NodeC W P (.node id nm rep kind sub) [.int .i64 id, .string nm, .int .i64 rep, .int .i64 kind, .slice a sub.length c]
def LiesN (W : World) (P : Nat → Prop) (a : Option Addr) (ts : List Tr) : Prop := ∃ F : Nat → List Value, (∀ j, j < ts.length → NodeAt W P a j (F j)) ∧ ∀ j (h : j < ts.length), NodeC W P ts[j] (F j)
theorem cell_stay {W W' : World} {b o : Nat} {x : Value} (h : W.cell? ⟨b, o, none⟩ = some x) (hs : W'.heap[b]? = W.heap[b]?) : W'.cell? ⟨b, o, none⟩ = some x := by
 rw [← h]
 simp only [World.cell?, hs]
theorem NodeAt.stay {W W' : World} {P Q : Nat → Prop} {a : Option Addr} {j : Nat} {cs : List Value} (h : NodeAt W P a j cs) (hPQ : ∀ b, P b → b < W.heap.size → Q b) (hs : ∀ b, P b → b < W.heap.size → W'.heap[b]? = W.heap[b]?) : NodeAt W' Q a j cs := by
 obtain ⟨b, o, x0, x1, x2, x3, x4, e, hp, ecs, h0, h1, h2, h3, h4⟩ := h
 have hlt : b < W.heap.size := World.block_lt_of_cell? W _ h0
 have hb := hs b hp hlt
 exact ⟨b, o, x0, x1, x2, x3, x4, e, hPQ b hp hlt, ecs, cell_stay h0 hb, cell_stay h1 hb, cell_stay h2 hb, cell_stay h3 hb, cell_stay h4 hb⟩
theorem NodeC.stay {W W' : World} {P Q : Nat → Prop} (hPQ : ∀ b, P b → b < W.heap.size → Q b) (hs : ∀ b, P b → b < W.heap.size → W'.heap[b]? = W.heap[b]?) {t : Tr} {cs : List Value} (h : NodeC W P t cs) : NodeC W' Q t cs := by
 induction h with
 | mk id nm rep kind sub a c hc F cells each ih => exact .mk id nm rep kind sub a c hc F (fun j hj => (cells j hj).stay hPQ hs) ih
theorem LiesN.stay {W W' : World} {P Q : Nat → Prop} {a : Option Addr} {ts : List Tr} (h : LiesN W P a ts) (hPQ : ∀ b, P b → b < W.heap.size → Q b) (hs : ∀ b, P b → b < W.heap.size → W'.heap[b]? = W.heap[b]?) : LiesN W' Q a ts := by
 obtain ⟨F, h1, h2⟩ := h
 exact ⟨F, fun j hj => (h1 j hj).stay hPQ hs, fun j hj => (h2 j hj).stay hPQ hs⟩
theorem NodeC.keep {W W' : World} {P : Nat → Prop} (hb : Below W.heap.size W W') {t : Tr} {cs : List Value} (h : NodeC W P t cs) : NodeC W' P t cs := h.stay (fun _ h _ => h) (fun b _ hl => hb.block b hl)
theorem LiesN.keep {W W' : World} {P : Nat → Prop} {a : Option Addr} {ts : List Tr} (h : LiesN W P a ts) (hb : Below W.heap.size W W') : LiesN W' P a ts := h.stay (fun _ h _ => h) (fun b _ hl => hb.block b hl)
theorem NodeC.split {W : World} {P : Nat → Prop} {t : Tr} {cs : List Value} (h : NodeC W P t cs) : ∃ a c, cs = [.int .i64 t.id, .string t.nm, .int .i64 t.rep, .int .i64 t.kind, .slice a t.sub.length c] ∧ LiesN W P a t.sub := by
 cases h with
 | mk id nm rep kind sub a c hc F cells each => exact ⟨a, c, rfl, F, cells, each⟩
theorem NodeC.split2 {W : World} {P : Nat → Prop} {t : Tr} {cs : List Value} (h : NodeC W P t cs) : ∃ a c, cs = [.int .i64 t.id, .string t.nm, .int .i64 t.rep, .int .i64 t.kind, .slice a t.sub.length c] ∧ LiesN W P a t.sub ∧ t.sub.length ≤ c := by
 cases h with
 | mk id nm rep kind sub a c hc F cells each => exact ⟨a, c, rfl, ⟨F, cells, each⟩, hc⟩
theorem NodeC.join {W : World} {P : Nat → Prop} {t : Tr} {a : Option Addr} (c : Nat) (hc : t.sub.length ≤ c) (h : LiesN W P a t.sub) : NodeC W P t [.int .i64 t.id, .string t.nm, .int .i64 t.rep, .int .i64 t.kind, .slice a t.sub.length c] := by
 obtain ⟨F, h1, h2⟩ := h
 cases t with
 | node id nm rep kind sub => exact .mk id nm rep kind sub a c hc F h1 h2
theorem LiesN.at_ {W : World} {P : Nat → Prop} {a : Option Addr} {ts : List Tr} (h : LiesN W P a ts) (j : Nat) (hj : j < ts.length) : ∃ b o a' c', a = some ⟨b, o, none⟩ ∧ W.cell? ⟨b, o + j * 5, none⟩ = some (.int .i64 ts[j].id) ∧ W.cell? ⟨b, o + j * 5 + 1, none⟩ = some (.string ts[j].nm) ∧ W.cell? ⟨b, o + j * 5 + 2, none⟩ = some (.int .i64 ts[j].rep) ∧ W.cell? ⟨b, o + j * 5 + 3, none⟩ = some (.int .i64 ts[j].kind) ∧ W.cell? ⟨b, o + j * 5 + 4, none⟩ = some (.slice a' ts[j].sub.length c') ∧ LiesN W P a' ts[j].sub := by
 obtain ⟨F, h1, h2⟩ := h
 obtain ⟨b, o, x0, x1, x2, x3, x4, e, _, ecs, q0, q1, q2, q3, q4⟩ := h1 j hj
 obtain ⟨a', c', e', hl⟩ := (h2 j hj).split
 rw [ecs] at e'
 simp only [List.cons.injEq, and_true] at e'
 obtain ⟨rfl, rfl, rfl, rfl, rfl⟩ := e'
 exact ⟨b, o, a', c', e, q0, q1, q2, q3, q4, hl⟩
theorem LiesN.at2 {W : World} {P : Nat → Prop} {a : Option Addr} {ts : List Tr} (h : LiesN W P a ts) (j : Nat) (hj : j < ts.length) : ∃ b o a' c', a = some ⟨b, o, none⟩ ∧ W.cell? ⟨b, o + j * 5, none⟩ = some (.int .i64 ts[j].id) ∧ W.cell? ⟨b, o + j * 5 + 1, none⟩ = some (.string ts[j].nm) ∧ W.cell? ⟨b, o + j * 5 + 2, none⟩ = some (.int .i64 ts[j].rep) ∧ W.cell? ⟨b, o + j * 5 + 3, none⟩ = some (.int .i64 ts[j].kind) ∧ W.cell? ⟨b, o + j * 5 + 4, none⟩ = some (.slice a' ts[j].sub.length c') ∧ LiesN W P a' ts[j].sub ∧ ts[j].sub.length ≤ c' := by
 obtain ⟨F, h1, h2⟩ := h
 obtain ⟨b, o, x0, x1, x2, x3, x4, e, _, ecs, q0, q1, q2, q3, q4⟩ := h1 j hj
 obtain ⟨a', c', e', hl, hc⟩ := (h2 j hj).split2
 rw [ecs] at e'
 simp only [List.cons.injEq, and_true] at e'
 obtain ⟨rfl, rfl, rfl, rfl, rfl⟩ := e'
 exact ⟨b, o, a', c', e, q0, q1, q2, q3, q4, hl, hc⟩
theorem LiesN.take {W : World} {P : Nat → Prop} {a : Option Addr} {ts : List Tr} (h : LiesN W P a ts) (k : Nat) : LiesN W P a (ts.take k) := by
 obtain ⟨F, h1, h2⟩ := h
 refine ⟨F, fun j hj => h1 j ?_, fun j hj => ?_⟩
 · rw [List.length_take] at hj; omega
 · rw [List.getElem_take]; exact h2 j _
inductive Dt where
 | mk (no : Bool) (v : Vl) (l f : List Dt)
def Dt.no : Dt → Bool | .mk b _ _ _ => b
def Dt.v : Dt → Vl | .mk _ v _ _ => v
def Dt.l : Dt → List Dt | .mk _ _ l _ => l
def Dt.f : Dt → List Dt | .mk _ _ _ f => f
mutual
def wt : Dt → Nat
 | .mk _ v l f => 1 + v.s.size + wtL l + wtL f
def wtL : List Dt → Nat
 | [] => 0
 | d :: ds => wt d + wtL ds
end
theorem wt_eq (d : Dt) : wt d = 1 + d.v.s.size + wtL d.l + wtL d.f := by
 cases d with
 | mk no v l f => rw [wt]; rfl
inductive Dt.Sm : Dt → Prop where
 | mk (no : Bool) (v : Vl) (l f : List Dt) (hs : v.s.size ≤ 1048576) (hl : l.length ≤ 1048576) (hf : f.length ≤ 1048576) (el : ∀ j (h : j < l.length), Dt.Sm l[j]) (ef : ∀ j (h : j < f.length), Dt.Sm f[j]) : Dt.Sm (.mk no v l f)
def DtAt (W : World) (P : Nat → Prop) (a : Option Addr) (j : Nat) (cs : List Value) : Prop :=
 ∃ b o x0 x1 x2 x3 x4 x5, a = some ⟨b, o, none⟩ ∧ P b ∧ cs = [x0, x1, x2, x3, x4, x5] ∧ W.cell? ⟨b, o + j * 6, none⟩ = some x0 ∧ W.cell? ⟨b, o + j * 6 + 1, none⟩ = some x1 ∧ W.cell? ⟨b, o + j * 6 + 2, none⟩ = some x2 ∧ W.cell? ⟨b, o + j * 6 + 3, none⟩ = some x3 ∧ W.cell? ⟨b, o + j * 6 + 4, none⟩ = some x4 ∧ W.cell? ⟨b, o + j * 6 + 5, none⟩ = some x5
inductive DtC (W : World) (P : Nat → Prop) : Dt → List Value → Prop where
 | mk (no : Bool) (v : Vl) (l f : List Dt) (al : Option Addr) (cl : Nat) (af : Option Addr) (cf : Nat) (F G : Nat → List Value)
     (cellsL : ∀ j, j < l.length → DtAt W P al j (F j)) (eachL : ∀ j (h : j < l.length), DtC W P l[j] (F j))
     (cellsF : ∀ j, j < f.length → DtAt W P af j (G j)) (eachF : ∀ j (h : j < f.length), DtC W P f[j] (G j)) :
     DtC W P (.mk no v l f) [.bool no, .int .i64 v.k, .int .i64 v.n, .string v.s, .slice al l.length cl, .slice af f.length cf]
def LiesD (W : World) (P : Nat → Prop) (a : Option Addr) (ds : List Dt) : Prop := ∃ F : Nat → List Value, (∀ j, j < ds.length → DtAt W P a j (F j)) ∧ ∀ j (h : j < ds.length), DtC W P ds[j] (F j)
theorem DtAt.stay {W W' : World} {P Q : Nat → Prop} {a : Option Addr} {j : Nat} {cs : List Value} (h : DtAt W P a j cs) (hPQ : ∀ b, P b → b < W.heap.size → Q b) (hs : ∀ b, P b → b < W.heap.size → W'.heap[b]? = W.heap[b]?) : DtAt W' Q a j cs := by
 obtain ⟨b, o, x0, x1, x2, x3, x4, x5, e, hp, ecs, h0, h1, h2, h3, h4, h5⟩ := h
 have hlt : b < W.heap.size := World.block_lt_of_cell? W _ h0
 have hb := hs b hp hlt
 exact ⟨b, o, x0, x1, x2, x3, x4, x5, e, hPQ b hp hlt, ecs, cell_stay h0 hb, cell_stay h1 hb, cell_stay h2 hb, cell_stay h3 hb, cell_stay h4 hb, cell_stay h5 hb⟩
theorem DtC.stay {W W' : World} {P Q : Nat → Prop} (hPQ : ∀ b, P b → b < W.heap.size → Q b) (hs : ∀ b, P b → b < W.heap.size → W'.heap[b]? = W.heap[b]?) {t : Dt} {cs : List Value} (h : DtC W P t cs) : DtC W' Q t cs := by
 induction h with
 | mk no v l f al cl af cf F G cellsL eachL cellsF eachF ihl ihf => exact .mk no v l f al cl af cf F G (fun j hj => (cellsL j hj).stay hPQ hs) ihl (fun j hj => (cellsF j hj).stay hPQ hs) ihf
theorem LiesD.stay {W W' : World} {P Q : Nat → Prop} {a : Option Addr} {ds : List Dt} (h : LiesD W P a ds) (hPQ : ∀ b, P b → b < W.heap.size → Q b) (hs : ∀ b, P b → b < W.heap.size → W'.heap[b]? = W.heap[b]?) : LiesD W' Q a ds := by
 obtain ⟨F, h1, h2⟩ := h
 exact ⟨F, fun j hj => (h1 j hj).stay hPQ hs, fun j hj => (h2 j hj).stay hPQ hs⟩
theorem LiesD.keep {W W' : World} {P : Nat → Prop} {a : Option Addr} {ds : List Dt} (h : LiesD W P a ds) (hb : Below W.heap.size W W') : LiesD W' P a ds := h.stay (fun _ h _ => h) (fun b _ hl => hb.block b hl)
theorem DtC.split {W : World} {P : Nat → Prop} {d : Dt} {cs : List Value} (h : DtC W P d cs) : ∃ al cl af cf, cs = [.bool d.no, .int .i64 d.v.k, .int .i64 d.v.n, .string d.v.s, .slice al d.l.length cl, .slice af d.f.length cf] ∧ LiesD W P al d.l ∧ LiesD W P af d.f := by
 cases h with
 | mk no v l f al cl af cf F G cellsL eachL cellsF eachF => exact ⟨al, cl, af, cf, rfl, ⟨F, cellsL, eachL⟩, ⟨G, cellsF, eachF⟩⟩
theorem DtC.join {W : World} {P : Nat → Prop} {d : Dt} {al af : Option Addr} (cl cf : Nat) (h : LiesD W P al d.l) (h' : LiesD W P af d.f) : DtC W P d [.bool d.no, .int .i64 d.v.k, .int .i64 d.v.n, .string d.v.s, .slice al d.l.length cl, .slice af d.f.length cf] := by
 obtain ⟨F, h1, h2⟩ := h
 obtain ⟨G, g1, g2⟩ := h'
 cases d with
 | mk no v l f => exact .mk no v l f al cl af cf F G h1 h2 g1 g2
theorem LiesD.at_ {W : World} {P : Nat → Prop} {a : Option Addr} {ds : List Dt} (h : LiesD W P a ds) (j : Nat) (hj : j < ds.length) : ∃ b o al cl af cf, a = some ⟨b, o, none⟩ ∧ (W.cell? ⟨b, o + j * 6, none⟩ = some (.bool ds[j].no) ∧ W.cell? ⟨b, o + j * 6 + 1, none⟩ = some (.int .i64 ds[j].v.k) ∧ W.cell? ⟨b, o + j * 6 + 2, none⟩ = some (.int .i64 ds[j].v.n) ∧ W.cell? ⟨b, o + j * 6 + 3, none⟩ = some (.string ds[j].v.s) ∧ W.cell? ⟨b, o + j * 6 + 4, none⟩ = some (.slice al ds[j].l.length cl) ∧ W.cell? ⟨b, o + j * 6 + 5, none⟩ = some (.slice af ds[j].f.length cf)) ∧ LiesD W P al ds[j].l ∧ LiesD W P af ds[j].f := by
 obtain ⟨F, h1, h2⟩ := h
 obtain ⟨b, o, x0, x1, x2, x3, x4, x5, e, _, ecs, q0, q1, q2, q3, q4, q5⟩ := h1 j hj
 obtain ⟨al, cl, af, cf, e', hl, hf⟩ := (h2 j hj).split
 rw [ecs] at e'
 simp only [List.cons.injEq, and_true] at e'
 obtain ⟨rfl, rfl, rfl, rfl, rfl, rfl⟩ := e'
 exact ⟨b, o, al, cl, af, cf, e, ⟨q0, q1, q2, q3, q4, q5⟩, hl, hf⟩
end Go.Proofs.YteonbmaokphleaaGreatDoor
