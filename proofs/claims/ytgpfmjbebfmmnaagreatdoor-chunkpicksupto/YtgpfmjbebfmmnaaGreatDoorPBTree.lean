/-
  Schemas as trees (api.Node), and where they lie: the words, without the program.
  enc.Less, enc.inTotalOrder and the reference's LessOf: what they answer.
  The order of values is one: the mathematics, without the program.
-/
import Derived.Test.YtgpfmjbebfmmnaaGreatDoorPBVal
import Derived.RowKit
import Derived.Deep.QuietTactic
import Derived.BigQuiet
namespace Go.Proofs.YtgpfmjbebfmmnaaGreatDoor
open Go.RowKit
inductive Tr where
 | node (id : Int) (nm : ByteArray) (rep kind : Int) (sub : List Tr)
def Tr.id : Tr → Int | .node i _ _ _ _ => i
def Tr.nm : Tr → ByteArray | .node _ s _ _ _ => s
def Tr.rep : Tr → Int | .node _ _ r _ _ => r
def Tr.kind : Tr → Int | .node _ _ _ k _ => k
def Tr.sub : Tr → List Tr | .node _ _ _ _ l => l
inductive Tr.Sm : Tr → Prop where
 | mk (id : Int) (nm : ByteArray) (rep kind : Int) (sub : List Tr) (hi : -9223372036854775808 ≤ id ∧ id ≤ 9223372036854775807) (hs : nm.size ≤ 1048576) (hl : sub.length ≤ 1048576) (each : ∀ j (h : j < sub.length), Tr.Sm sub[j]) : Tr.Sm (.node id nm rep kind sub)
theorem Tr.Sm.len {t : Tr} (h : t.Sm) : t.sub.length ≤ 1048576 := by cases h with | mk id nm rep kind sub hi hs hl each => exact hl
theorem Tr.Sm.nm {t : Tr} (h : t.Sm) : t.nm.size ≤ 1048576 := by cases h with | mk id nm rep kind sub hi hs hl each => exact hs
theorem Tr.Sm.at_ {t : Tr} (h : t.Sm) (j : Nat) (hj : j < t.sub.length) : t.sub[j].Sm := by cases h with | mk id nm rep kind sub hi hs hl each => exact each j hj
inductive Tr.Dp : Nat → Tr → Prop where
 | mk (n : Nat) (id : Int) (nm : ByteArray) (rep kind : Int) (sub : List Tr) (each : ∀ j (h : j < sub.length), Tr.Dp n sub[j]) : Tr.Dp (n + 1) (.node id nm rep kind sub)
theorem Tr.Dp.at_ {n : Nat} {t : Tr} (h : Tr.Dp (n + 1) t) (j : Nat) (hj : j < t.sub.length) : Tr.Dp n t.sub[j] := by cases h with | mk n id nm rep kind sub each => exact each j hj
theorem Tr.Dp.pos {n : Nat} {t : Tr} (h : Tr.Dp n t) : 0 < n := by cases h with | mk n id nm rep kind sub each => omega
theorem Tr.Dp.up {n : Nat} {t : Tr} (h : Tr.Dp n t) : ∀ m, n ≤ m → Tr.Dp m t := by
 induction h with
 | mk n id nm rep kind sub each ih =>
  intro m hm
  obtain ⟨k, rfl⟩ : ∃ k, m = k + 1 := ⟨m - 1, by omega⟩
  exact .mk k id nm rep kind sub fun j hj => ih j hj k (by omega)
def NodeAt (W : World) (P : Nat → Prop) (a : Option Addr) (j : Nat) (cs : List Value) : Prop :=
 ∃ b o x0 x1 x2 x3 x4, a = some ⟨b, o, none⟩ ∧ P b ∧ cs = [x0, x1, x2, x3, x4] ∧ W.cell? ⟨b, o + j * 5, none⟩ = some x0 ∧ W.cell? ⟨b, o + j * 5 + 1, none⟩ = some x1 ∧ W.cell? ⟨b, o + j * 5 + 2, none⟩ = some x2 ∧ W.cell? ⟨b, o + j * 5 + 3, none⟩ = some x3 ∧ W.cell? ⟨b, o + j * 5 + 4, none⟩ = some x4
inductive NodeC (W : World) (P : Nat → Prop) : Tr → List Value → Prop where
 | mk (id : Int) (nm : ByteArray) (rep kind : Int) (sub : List Tr) (a : Option Addr) (c : Nat) (hc : sub.length ≤ c) (F : Nat → List Value)
     (cells : ∀ j, j < sub.length → NodeAt W P a j (F j)) (each : ∀ j (h : j < sub.length), NodeC W P sub[j] (F j)) :
     NodeC W P (.node id nm rep kind sub) [.int .i64 id, .string nm, .int .i64 rep, .int .i64 kind, .slice a sub.length c]
def LiesN (W : World) (P : Nat → Prop) (a : Option Addr) (ts : List Tr) : Prop := ∃ F : Nat → List Value, (∀ j, j < ts.length → NodeAt W P a j (F j)) ∧ ∀ j (h : j < ts.length), NodeC W P ts[j] (F j)
theorem cell_stay {W W' : World} {b o : Nat} {x : Value} (h : W.cell? ⟨b, o, none⟩ = some x) (hs : W'.heap[b]? = W.heap[b]?) : W'.cell? ⟨b, o, none⟩ = some x := by
 rw [← h]
 simp only [World.cell?, hs]
theorem NodeAt.stay {W W' : World} {P Q : Nat → Prop} {a : Option Addr} {j : Nat} {cs : List Value} (h : NodeAt W P a j cs) (hPQ : ∀ b, P b → b < W.heap.size → Q b) (hs : ∀ b, P b → b < W.heap.size → W'.heap[b]? = W.heap[b]?) : NodeAt W' Q a j cs := by
 obtain ⟨b, o, x0, x1, x2, x3, x4, e, hp, ecs, h0, h1, h2, h3, h4⟩ := h
 have hlt : b < W.heap.size := World.block_lt_of_cell? W _ h0
 have hb := hs b hp hlt
 exact ⟨b, o, x0, x1, x2, x3, x4, e, hPQ b hp hlt, ecs, cell_stay h0 hb, cell_stay h1 hb, cell_stay h2 hb, cell_stay h3 hb, cell_stay h4 hb⟩
theorem NodeC.stay {W W' : World} {P Q : Nat → Prop} (hPQ : ∀ b, P b → b < W.heap.size → Q b) (hs : ∀ b, P b → b < W.heap.size → W'.heap[b]? = W.heap[b]?) {t : Tr} {cs : List Value} (h : NodeC W P t cs) : NodeC W' Q t cs := by
 induction h with
 | mk id nm rep kind sub a c hc F cells each ih => exact .mk id nm rep kind sub a c hc F (fun j hj => (cells j hj).stay hPQ hs) ih
theorem LiesN.stay {W W' : World} {P Q : Nat → Prop} {a : Option Addr} {ts : List Tr} (h : LiesN W P a ts) (hPQ : ∀ b, P b → b < W.heap.size → Q b) (hs : ∀ b, P b → b < W.heap.size → W'.heap[b]? = W.heap[b]?) : LiesN W' Q a ts := by
 obtain ⟨F, h1, h2⟩ := h
 exact ⟨F, fun j hj => (h1 j hj).stay hPQ hs, fun j hj => (h2 j hj).stay hPQ hs⟩
theorem NodeC.keep {W W' : World} {P : Nat → Prop} (hb : Below W.heap.size W W') {t : Tr} {cs : List Value} (h : NodeC W P t cs) : NodeC W' P t cs := h.stay (fun _ h _ => h) (fun b _ hl => hb.block b hl)
theorem LiesN.keep {W W' : World} {P : Nat → Prop} {a : Option Addr} {ts : List Tr} (h : LiesN W P a ts) (hb : Below W.heap.size W W') : LiesN W' P a ts := h.stay (fun _ h _ => h) (fun b _ hl => hb.block b hl)
theorem NodeC.split {W : World} {P : Nat → Prop} {t : Tr} {cs : List Value} (h : NodeC W P t cs) : ∃ a c, cs = [.int .i64 t.id, .string t.nm, .int .i64 t.rep, .int .i64 t.kind, .slice a t.sub.length c] ∧ LiesN W P a t.sub := by
 cases h with
 | mk id nm rep kind sub a c hc F cells each => exact ⟨a, c, rfl, F, cells, each⟩
theorem LiesN.at_ {W : World} {P : Nat → Prop} {a : Option Addr} {ts : List Tr} (h : LiesN W P a ts) (j : Nat) (hj : j < ts.length) : ∃ b o a' c', a = some ⟨b, o, none⟩ ∧ W.cell? ⟨b, o + j * 5, none⟩ = some (.int .i64 ts[j].id) ∧ W.cell? ⟨b, o + j * 5 + 1, none⟩ = some (.string ts[j].nm) ∧ W.cell? ⟨b, o + j * 5 + 2, none⟩ = some (.int .i64 ts[j].rep) ∧ W.cell? ⟨b, o + j * 5 + 3, none⟩ = some (.int .i64 ts[j].kind) ∧ W.cell? ⟨b, o + j * 5 + 4, none⟩ = some (.slice a' ts[j].sub.length c') ∧ LiesN W P a' ts[j].sub := by
 obtain ⟨F, h1, h2⟩ := h
 obtain ⟨b, o, x0, x1, x2, x3, x4, e, _, ecs, q0, q1, q2, q3, q4⟩ := h1 j hj
 obtain ⟨a', c', e', hl⟩ := (h2 j hj).split
 rw [ecs] at e'
 simp only [List.cons.injEq, and_true] at e'
 obtain ⟨rfl, rfl, rfl, rfl, rfl⟩ := e'
 exact ⟨b, o, a', c', e, q0, q1, q2, q3, q4, hl⟩
theorem LiesN.take {W : World} {P : Nat → Prop} {a : Option Addr} {ts : List Tr} (h : LiesN W P a ts) (k : Nat) : LiesN W P a (ts.take k) := by
 obtain ⟨F, h1, h2⟩ := h
 refine ⟨F, fun j hj => h1 j ?_, fun j hj => ?_⟩
 · rw [List.length_take] at hj; omega
 · rw [List.getElem_take]; exact h2 j _
theorem blw_drewN {B : Nat} {a w : World} (h : Below B a w) (n : Nat) : Below B a (w.drewN n) := h.trans ⟨rfl, rfl, rfl, Nat.le_refl _, fun _ _ => rfl⟩
theorem xor_low (m : Nat) (hm : m < 2 ^ 63) : (2 ^ 63 + m) ^^^ (2 ^ 63 - 1) = 2 ^ 63 + (2 ^ 63 - 1 - m) := by
 apply Nat.eq_of_testBit_eq
 intro i
 rw [Nat.testBit_xor, Nat.testBit_two_pow_sub_one]
 rcases Nat.lt_trichotomy i 63 with h | h | h
 · rw [Nat.testBit_two_pow_add_gt h, Nat.testBit_two_pow_add_gt h, show 2 ^ 63 - 1 - m = 2 ^ 63 - (m + 1) from by omega, Nat.testBit_two_pow_sub_succ hm]
   simp [h]
 · subst h
   rw [Nat.testBit_two_pow_add_eq, Nat.testBit_two_pow_add_eq, Nat.testBit_lt_two_pow hm, Nat.testBit_lt_two_pow (show 2 ^ 63 - 1 - m < 2 ^ 63 by omega)]
   rfl
 · have hb : (2 : Nat) ^ 64 ≤ 2 ^ i := Nat.pow_le_pow_right (by omega) h
   rw [Nat.testBit_lt_two_pow (show 2 ^ 63 + m < 2 ^ i by omega), Nat.testBit_lt_two_pow (show 2 ^ 63 + (2 ^ 63 - 1 - m) < 2 ^ i by omega)]
   simp; omega
theorem flip_i64 (a : Int) (h0 : -9223372036854775808 ≤ a) (h1 : a < 0) : bits .xor .i64 a 9223372036854775807 = -9223372036854775809 - a := by
 obtain ⟨m, hm⟩ : ∃ m : Nat, a = -9223372036854775808 + m := ⟨(a + 9223372036854775808).toNat, by omega⟩
 have hm2 : m < 2 ^ 63 := by omega
 show IntKind.i64.wrap ((BitVec.ofInt 64 a ^^^ BitVec.ofInt 64 9223372036854775807).toNat : Int) = _
 have e1 : (BitVec.ofInt 64 a).toNat = 2 ^ 63 + m := by rw [BitVec.toNat_ofInt]; omega
 have e2 : (BitVec.ofInt 64 9223372036854775807).toNat = 2 ^ 63 - 1 := by decide
 rw [BitVec.toNat_xor, e1, e2, xor_low m hm2, IntKind.wrap_i64]
 omega
set_option maxRecDepth 100000 in
theorem inTotal_any (n : Int) (w : World) (h0 : -9223372036854775808 ≤ n) : Calls Tryz.prog 137 #[.int .i64 n] w fun e w' => e = .returned (.int .i64 (if n < 0 then -9223372036854775809 - n else n)) ∧ w' = w := by
 by_cases h : n < 0
 · have hf := flip_i64 n h0 h
   rw [if_pos h]
   go_enter Tryz.func137, Tryz.ntmps137
   go_wp2
   go_ret
   exact ⟨rfl, rfl⟩
 · rw [if_neg h]
   go_enter Tryz.func137, Tryz.ntmps137
   go_wp2
   go_ret
   exact ⟨rfl, rfl⟩
def tot (n : Int) : Int := if n < 0 then -9223372036854775809 - n else n
def vless (k1 n1 : Int) (s1 : ByteArray) (k2 n2 : Int) (s2 : ByteArray) : Bool :=
 if k1 = k2 then (if k1 = 4 then Op.bytesLess s1.toList s2.toList else if k1 = 5 then decide (tot n1 < tot n2) else decide (n1 < n2)) else decide (k1 < k2)
set_option maxRecDepth 100000 in
set_option maxHeartbeats 800000 in
theorem less_any (k1 n1 : Int) (s1 : ByteArray) (k2 n2 : Int) (s2 : ByteArray) (w : World) (h1 : -9223372036854775808 ≤ n1) (h2 : -9223372036854775808 ≤ n2) :
    Calls Tryz.prog 98 #[.agg #[.int .i64 k1, .int .i64 n1, .string s1], .agg #[.int .i64 k2, .int .i64 n2, .string s2]] w fun e w' => e = .returned (.bool (vless k1 n1 s1 k2 n2 s2)) ∧ Below w.heap.size w w' := by
 go_enter Tryz.func98, Tryz.ntmps98
 go_wp2
 all_goals try (go_quiet ((go_at_call 137; exact Calls.quiet_of_same (inTotal_any _ _ (by assumption)))); go_wp2)
 all_goals go_ret
 all_goals refine ⟨ret_b ?_, ?_⟩
 all_goals first
  | exact ((Below.refl _ _).alloc (Nat.le_refl _) _).alloc (by simp) _
  | exact blw_drewN (((Below.refl _ _).alloc (Nat.le_refl _) _).alloc (by simp) _) _
  | (unfold vless tot; grind)
theorem bless_eq : ∀ (x y : List UInt8), Op.bytesLess x y = decide (x < y)
 | [], [] => by simp [Op.bytesLess]
 | _ :: _, [] => by simp [Op.bytesLess]
 | [], _ :: _ => by simp [Op.bytesLess]
 | a :: x, b :: y => by
  rw [Op.bytesLess, bless_eq x y]
  simp only [List.cons_lt_cons_iff]
  by_cases h1 : a < b <;> by_cases h2 : a = b <;> by_cases h3 : x < y <;> simp [h1, h2, h3]
theorem bl_asymm (x y : List UInt8) (h : Op.bytesLess x y = true) : Op.bytesLess y x = false := by
 rw [bless_eq] at *
 exact decide_eq_false (List.lt_asymm (of_decide_eq_true h))
theorem bl_trans (x y z : List UInt8) (h : Op.bytesLess x y = true) (h' : Op.bytesLess y z = true) : Op.bytesLess x z = true := by
 rw [bless_eq] at *
 exact decide_eq_true (List.lt_trans (of_decide_eq_true h) (of_decide_eq_true h'))
theorem bl_irrefl (x : List UInt8) : Op.bytesLess x x = false := by
 rw [bless_eq]
 exact decide_eq_false (List.lt_irrefl x)
theorem bl_total : ∀ (x y : List UInt8), Op.bytesLess x y = false → Op.bytesLess y x = false → x = y
 | [], [], _, _ => rfl
 | _ :: _, [], _, h => by simp [Op.bytesLess] at h
 | [], _ :: _, h, _ => by simp [Op.bytesLess] at h
 | a :: x, b :: y, h, h' => by
  rw [Op.bytesLess, Bool.or_eq_false_iff, Bool.and_eq_false_iff, decide_eq_false_iff_not] at h h'
  have hab : a = b := by
   have := a.toNat_lt
   have h1 := h.1
   have h2 := h'.1
   rw [UInt8.lt_iff_toNat_lt] at h1 h2
   exact UInt8.toNat_inj.1 (by omega)
  subst hab
  have e : x = y := bl_total x y (by simpa using h.2) (by simpa using h'.2)
  rw [e]
theorem tot_inj {n m : Int} (h1 : -9223372036854775808 ≤ n) (h2 : -9223372036854775808 ≤ m) (h : tot n = tot m) : n = m := by
 unfold tot at h; split at h <;> split at h <;> omega
theorem vless_tri (k n1 n2 : Int) (s1 s2 : ByteArray) (h1 : -9223372036854775808 ≤ n1) (h2 : -9223372036854775808 ≤ n2) (o1 : OkV k k n1 s1.size) (o2 : OkV k k n2 s2.size) :
    (vless k n1 s1 k n2 s2 && vless k n2 s2 k n1 s1) = false ∧ ((vless k n1 s1 k n2 s2 || vless k n2 s2 k n1 s1) = true ↔ ¬ (n1 = n2 ∧ s1 = s2)) := by
 unfold OkV at o1 o2
 have es : ∀ a b : ByteArray, a = b ↔ a.toList = b.toList := fun a b => by
  rw [Lib.toList_data, Lib.toList_data, Array.toList_inj]
  cases a; cases b; simp
 by_cases h4 : k = 4
 · have e : ∀ a b x y, vless k x a k y b = Op.bytesLess a.toList b.toList := fun a b x y => by simp [vless, h4]
   rw [e, e]
   have hn : n1 = n2 := by omega
   constructor
   · cases hb : Op.bytesLess s1.toList s2.toList
     · rfl
     · rw [bl_asymm _ _ hb]; rfl
   · rw [es]
     constructor
     · rintro h ⟨_, he⟩
       rw [he, bl_irrefl] at h
       simp at h
     · intro h
       cases hb : Op.bytesLess s1.toList s2.toList
       · cases hc : Op.bytesLess s2.toList s1.toList
         · exact absurd ⟨hn, bl_total _ _ hb hc⟩ h
         · rfl
       · rfl
 · have hs : s1 = s2 := by
     rw [es, (toList_nil s1).2 (by omega), (toList_nil s2).2 (by omega)]
   by_cases h5 : k = 5
   · have e : ∀ a b x y, vless k x a k y b = decide (tot x < tot y) := fun a b x y => by simp [vless, h5]
     rw [e, e]
     constructor
     · simp; omega
     · have hi : tot n1 = tot n2 ↔ n1 = n2 := ⟨tot_inj h1 h2, fun h => by rw [h]⟩
       simp [hs]
       omega
   · have e : ∀ a b x y, vless k x a k y b = decide (x < y) := fun a b x y => by simp [vless, h4, h5]
     rw [e, e]
     constructor
     · simp; omega
     · simp [hs]
       omega
theorem vless_trans (k n1 n2 n3 : Int) (s1 s2 s3 : ByteArray) (h : vless k n1 s1 k n2 s2 = true) (h' : vless k n2 s2 k n3 s3 = true) : vless k n1 s1 k n3 s3 = true := by
 by_cases h4 : k = 4
 · have e : ∀ a b x y, vless k x a k y b = Op.bytesLess a.toList b.toList := fun a b x y => by simp [vless, h4]
   rw [e] at *
   exact bl_trans _ _ _ h h'
 · by_cases h5 : k = 5
   · have e : ∀ a b x y, vless k x a k y b = decide (tot x < tot y) := fun a b x y => by simp [vless, h5]
     rw [e] at *
     simp at *
     omega
   · have e : ∀ a b x y, vless k x a k y b = decide (x < y) := fun a b x y => by simp [vless, h4, h5]
     rw [e] at *
     simp at *
     omega
end Go.Proofs.YtgpfmjbebfmmnaaGreatDoor
