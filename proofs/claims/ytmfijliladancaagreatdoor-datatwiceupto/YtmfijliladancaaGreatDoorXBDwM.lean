/-
  The text of a record, told as a list of bytes.
  The reader of a record's text: its next byte, a word.
-/
import Derived.Test.YtmfijliladancaaGreatDoorXBBtC
import Derived.Test.YtmfijliladancaaGreatDoorXBMath
import Derived.Lib.ItoaNum
import Derived.Test.YtmfijliladancaaGreatDoorXBValid
import Derived.BigQuiet
namespace Go.Proofs.YtmfijliladancaaGreatDoor
open Go.RowKit
/-- A digit of 16. -/
def hxD (d : Nat) : UInt8 := if d < 10 then UInt8.ofNat (48 + d) else UInt8.ofNat (87 + d)
/-- The lowest so many digits of 16, the highest one first. -/
def hx (n : Nat) : Nat → List UInt8
  | 0 => []
  | m + 1 => hxD (n / 16 ^ m % 16) :: hx n m
theorem hx_len (n : Nat) : ∀ m, (hx n m).length = m
  | 0 => rfl
  | m + 1 => by rw [hx, List.length_cons, hx_len n m]
/-- A byte that stands as itself. -/
def asIs (c : UInt8) : Bool := decide (32 ≤ c.toNat ∧ c.toNat ≤ 126 ∧ c.toNat ≠ 34 ∧ c.toNat ≠ 92)
theorem asIs_iff (c : UInt8) : asIs c = decide (32 ≤ c.toNat ∧ c.toNat ≤ 126 ∧ c.toNat ≠ 34 ∧ c.toNat ≠ 92) := rfl
def byT (c : UInt8) : List UInt8 := if asIs c then [c] else 92 :: hx c.toNat 2
def bysT : List UInt8 → List UInt8
  | [] => []
  | c :: l => byT c ++ bysT l
theorem bysT_app : ∀ a b : List UInt8, bysT (a ++ b) = bysT a ++ bysT b
  | [], b => rfl
  | c :: a, b => by rw [List.cons_append, bysT, bysT, bysT_app a b, List.append_assoc]
theorem byT_len (c : UInt8) : 1 ≤ (byT c).length ∧ (byT c).length ≤ 3 := by
  unfold byT
  split
  · simp
  · rw [List.length_cons, hx_len]; omega
theorem bysT_len : ∀ l : List UInt8, (bysT l).length ≤ 3 * l.length
  | [] => Nat.le_refl _
  | c :: l => by
    have h1 := byT_len c
    have h2 := bysT_len l
    rw [bysT, List.length_append, List.length_cons]
    omega
/-- A value's text. -/
def vx (v : Vl) : List UInt8 := if v.k = 1 then boolB v.n else if v.k = 4 then 34 :: (bysT v.s.data.toList ++ [34]) else if v.k = 5 then 120 :: hx (Um.u64 v.n) 16 else Lib.itoa v.n
/-- Elements, so many of them. -/
def lT (us : List (List UInt8)) : Nat → List UInt8
  | 0 => []
  | n + 1 => lT us n ++ (if n = 0 then [] else [44]) ++ us.getD n []
theorem lT_le (us : List (List UInt8)) (n m : Nat) (h : n ≤ m) : (lT us n).length ≤ (lT us m).length := by
  induction m with
  | zero => obtain rfl : n = 0 := by omega
            omega
  | succ m ih =>
    by_cases e : n = m + 1
    · subst e; omega
    · have := ih (by omega)
      rw [lT]
      simp only [List.length_append]
      omega
mutual
/-- A datum's text. -/
def tx (one : Bool) (t : Tr) : Dt → List UInt8
  | .mk no v l f => if one = false ∧ t.rep = 3 then 91 :: (lT (txL t l) l.length ++ [93]) else if one = false ∧ no = true then [110, 117, 108, 108] else if t.kind = 0 then gT t.sub (txF t.sub f) t.sub.length ++ [125] else vx v
def txL (t : Tr) : List Dt → List (List UInt8)
  | [] => []
  | d :: ds => tx true t d :: txL t ds
def txF : List Tr → List Dt → List (List UInt8)
  | _, [] => []
  | [], _ :: _ => []
  | t :: ts, d :: ds => tx false t d :: txF ts ds
end
theorem tx_eq (one : Bool) (t : Tr) (d : Dt) : tx one t d = if one = false ∧ t.rep = 3 then 91 :: (lT (txL t d.l) d.l.length ++ [93]) else if one = false ∧ d.no = true then [110, 117, 108, 108] else if t.kind = 0 then gT t.sub (txF t.sub d.f) t.sub.length ++ [125] else vx d.v := by
  cases d with
  | mk no v l f => rw [tx]; rfl
theorem txL_len (t : Tr) : ∀ ds, (txL t ds).length = ds.length
  | [] => rfl
  | d :: ds => by rw [txL, List.length_cons, List.length_cons, txL_len t ds]
theorem txL_get (t : Tr) : ∀ (ds : List Dt) (j : Nat) (h : j < ds.length) (h' : j < (txL t ds).length), (txL t ds)[j] = tx true t ds[j]
  | [], j, h, _ => absurd h (Nat.not_lt_zero _)
  | d :: ds, 0, _, _ => rfl
  | d :: ds, j + 1, h, h' => txL_get t ds j (by simpa using h) (by rw [txL, List.length_cons] at h'; omega)
theorem txF_len : ∀ (ts : List Tr) (ds : List Dt), ds.length = ts.length → (txF ts ds).length = ts.length
  | [], [], _ => rfl
  | [], _ :: _, h => by simp at h
  | _ :: _, [], h => by simp at h
  | t :: ts, d :: ds, h => by rw [txF, List.length_cons, List.length_cons, txF_len ts ds (by simpa using h)]
theorem txF_get : ∀ (ts : List Tr) (ds : List Dt), ds.length = ts.length → ∀ (j : Nat) (h : j < ts.length) (h' : j < ds.length) (h2 : j < (txF ts ds).length), (txF ts ds)[j] = tx false ts[j] ds[j]
  | [], _, _, j, h, _, _ => absurd h (Nat.not_lt_zero _)
  | _ :: _, [], h, _, _, _, _ => by simp at h
  | t :: ts, d :: ds, _, 0, _, _, _ => rfl
  | t :: ts, d :: ds, hl, j + 1, h, h', h2 => txF_get ts ds (by simpa using hl) j (by simpa using h) (by simpa using h') (by rw [txF, List.length_cons] at h2; omega)
/-! Right records. -/
theorem chkL_each (t : Tr) : ∀ ds, chkL t ds = 0 → ∀ j (h : j < ds.length), chk true t ds[j] = 0
  | [], _, j, h => absurd h (Nat.not_lt_zero _)
  | d :: ds, h0, j, h => by
    rw [chkL] at h0
    by_cases e : chk true t d = 0
    · rw [if_pos e] at h0
      cases j with
      | zero => exact e
      | succ j => exact chkL_each t ds h0 j (by simpa using h)
    · rw [if_neg e] at h0
      exact absurd h0 e
theorem chkF_each : ∀ (ts : List Tr) (ds : List Dt), chkF ts ds = 0 → ∀ j (h : j < ts.length) (h' : j < ds.length), chk false ts[j] ds[j] = 0
  | [], _, _, j, h, _ => absurd h (Nat.not_lt_zero _)
  | _ :: _, [], _, j, _, h' => absurd h' (Nat.not_lt_zero _)
  | t :: ts, d :: ds, h0, j, h, h' => by
    rw [chkF] at h0
    by_cases e : chk false t d = 0
    · rw [if_pos e] at h0
      cases j with
      | zero => exact e
      | succ j => exact chkF_each ts ds h0 j (by simpa using h) (by simpa using h')
    · rw [if_neg e] at h0
      exact absurd h0 e
theorem hasV_no {v : Vl} (h : hasV v = false) : v = ⟨0, 0, ⟨#[]⟩⟩ := by
  obtain ⟨k, n, s⟩ := v
  simp only [hasV, Bool.not_eq_false', decide_eq_true_eq] at h
  obtain ⟨rfl, rfl, h⟩ := h
  have h0 : s.size = 0 := (toList_nil s).1 h
  cases s with
  | mk a =>
    have : a = #[] := by
      have h1 : a.size = 0 := h0
      exact Array.eq_empty_of_size_eq_zero h1
    rw [this]
theorem nil_of {α : Type} {l : List α} (h : decide (0 < l.length) = false) : l = [] := by
  cases l with
  | nil => rfl
  | cons _ _ => simp at h
/-- What a right datum is: one of four. -/
inductive Kd (one : Bool) (t : Tr) : Dt → Prop where
  | list (l : List Dt) (h1 : one = false) (h3 : t.rep = 3) (hl : l.length ≤ 40) (each : ∀ j (h : j < l.length), chk true t l[j] = 0) : Kd one t (.mk false ⟨0, 0, ⟨#[]⟩⟩ l [])
  | none (h1 : one = false) (h2 : t.rep = 2) : Kd one t (.mk true ⟨0, 0, ⟨#[]⟩⟩ [] [])
  | group (f : List Dt) (h1 : ¬ (one = false ∧ t.rep = 3)) (hk : t.kind = 0) (hl : f.length = t.sub.length) (each : ∀ j (h : j < t.sub.length) (h' : j < f.length), chk false t.sub[j] f[j] = 0) : Kd one t (.mk false ⟨0, 0, ⟨#[]⟩⟩ [] f)
  | leaf (v : Vl) (h1 : ¬ (one = false ∧ t.rep = 3)) (hk : t.kind ≠ 0) (hv : v.k = t.kind) (ok : OkV v.k v.k v.n v.s.size) : Kd one t (.mk false v [] [])
theorem kd_of {one : Bool} {t : Tr} {d : Dt} (h : chk one t d = 0) : Kd one t d := by
  obtain ⟨no, v, l, f⟩ := d
  rw [chk] at h
  by_cases c1 : one = false ∧ t.rep = 3
  · rw [if_pos c1] at h
    by_cases c2 : 40 < l.length
    · rw [if_pos c2] at h; omega
    rw [if_neg c2] at h
    by_cases c3 : (no || hasV v || decide (0 < f.length)) = true
    · rw [if_pos c3] at h; omega
    rw [if_neg c3] at h
    simp only [Bool.not_eq_true, Bool.or_eq_false_iff] at c3
    obtain ⟨⟨rfl, e2⟩, e3⟩ := c3
    obtain rfl := hasV_no e2
    obtain rfl := nil_of e3
    exact .list l c1.1 c1.2 (by omega) (chkL_each t l h)
  rw [if_neg c1] at h
  by_cases c2 : one = false ∧ t.rep = 2 ∧ no = true
  · rw [if_pos c2] at h
    by_cases c3 : (hasV v || decide (0 < l.length) || decide (0 < f.length)) = true
    · rw [if_pos c3] at h; omega
    simp only [Bool.not_eq_true, Bool.or_eq_false_iff] at c3
    obtain ⟨⟨e1, e2⟩, e3⟩ := c3
    obtain rfl := hasV_no e1
    obtain rfl := nil_of e2
    obtain rfl := nil_of e3
    obtain ⟨a1, a2, rfl⟩ := c2
    exact .none a1 a2
  rw [if_neg c2] at h
  by_cases c3 : t.kind = 0
  · rw [if_pos c3] at h
    by_cases c4 : (no || hasV v || decide (0 < l.length) || !decide (f.length = t.sub.length)) = true
    · rw [if_pos c4] at h; omega
    rw [if_neg c4] at h
    simp only [Bool.not_eq_true, Bool.or_eq_false_iff, Bool.not_eq_false', decide_eq_true_eq] at c4
    obtain ⟨⟨⟨rfl, e1⟩, e2⟩, e3⟩ := c4
    obtain rfl := hasV_no e1
    obtain rfl := nil_of e2
    exact .group f c1 c3 e3 (chkF_each t.sub f h)
  rw [if_neg c3] at h
  by_cases c4 : (no || decide (0 < l.length) || decide (0 < f.length)) = true
  · rw [if_pos c4] at h; omega
  rw [if_neg c4] at h
  by_cases c5 : (!decide (v.k = t.kind) || !okV v.k v.k v.n v.s.size) = true
  · rw [if_pos c5] at h; omega
  simp only [Bool.not_eq_true, Bool.or_eq_false_iff, Bool.not_eq_false', decide_eq_true_eq] at c4 c5
  obtain ⟨⟨rfl, e2⟩, e3⟩ := c4
  obtain rfl := nil_of e2
  obtain rfl := nil_of e3
  exact .leaf v c1 c3 c5.1 (okV_iff.1 c5.2)
end Go.Proofs.YtmfijliladancaaGreatDoor

namespace Go.Proofs.YtmfijliladancaaGreatDoor
open Go.RowKit
/-- Bytes that stand in a text from a place on. -/
def Wo (s : ByteArray) (p : Nat) (u : List UInt8) : Prop := ∀ j (h : j < u.length), s.data[p + j]? = some u[j]
theorem Wo.nil (s : ByteArray) (p : Nat) : Wo s p [] := fun _ h => absurd h (Nat.not_lt_zero _)
theorem Wo.left {s : ByteArray} {p : Nat} {u v : List UInt8} (h : Wo s p (u ++ v)) : Wo s p u := fun j hj => by
  have := h j (by rw [List.length_append]; omega)
  rw [this, List.getElem_append_left hj]
theorem Wo.right {s : ByteArray} {p : Nat} {u v : List UInt8} (h : Wo s p (u ++ v)) : Wo s (p + u.length) v := fun j hj => by
  have := h (u.length + j) (by rw [List.length_append]; omega)
  rw [Nat.add_assoc, this, List.getElem_append_right (by omega)]
  simp
theorem Wo.whole (s : ByteArray) : Wo s 0 s.data.toList := fun j hj => by
  rw [Nat.zero_add, Array.getElem?_eq_getElem (by simpa using hj)]
  simp
theorem Wo.at_ {s : ByteArray} {p : Nat} {u : List UInt8} (h : Wo s p u) (j : Nat) (hj : j < u.length) : ∃ h : p + j < s.size, s[p + j] = u[j] := by
  have h1 := h j hj
  obtain ⟨h2, h3⟩ := Array.getElem?_eq_some_iff.1 h1
  exact ⟨h2, h3⟩
theorem Wo.le {s : ByteArray} {p : Nat} {u : List UInt8} (h : Wo s p u) (h0 : 0 < u.length) : p + u.length ≤ s.size := by
  obtain ⟨h1, _⟩ := h.at_ (u.length - 1) (by omega)
  omega
theorem Wo.tail {s : ByteArray} {p : Nat} {c : UInt8} {u : List UInt8} (h : Wo s p (c :: u)) : Wo s (p + 1) u := Wo.right (u := [c]) h
/-- The byte at a place, or 0 behind the end. -/
def nx (s : ByteArray) (p : Nat) : UInt8 := if h : p < s.size then s[p] else 0
theorem Wo.nx {s : ByteArray} {p : Nat} {c : UInt8} {u : List UInt8} (h : Wo s p (c :: u)) : nx s p = c := by
  obtain ⟨h1, h2⟩ := h.at_ 0 (by simp)
  unfold Go.Proofs.YtmfijliladancaaGreatDoor.nx
  rw [Nat.add_zero] at h1
  rw [dif_pos h1]
  simpa using h2
/-- A reader that has read up to a place. -/
def Rdd (r : Nat) (s : ByteArray) (p : Nat) (W : World) : Prop := W.heap[r]? = some (.cells #[.string s, .int .i64 (p : Nat)] 59 (0, 0))
theorem row_twoD {w : World} {g e : Nat} {x0 x1 : Value} (h : w.heap[g]? = some (.cells #[x0, x1] e (0, 0))) : w.cell? ⟨g, 0, none⟩ = some x0 ∧ w.cell? ⟨g, 1, none⟩ = some x1 ∧ w.frozen? ⟨g, 1, none⟩ = false := by
  refine ⟨cell_of_row w g 0 _ _ _ h, cell_of_row w g 1 _ _ _ h, ?_⟩
  simp [World.frozen?, h]
theorem Rdd.drew {r : Nat} {s : ByteArray} {p : Nat} {W : World} (h : Rdd r s p W) (n : Nat) : Rdd r s p (W.drewN n) := h
theorem Rdd.set {r : Nat} {s : ByteArray} {p q : Nat} {W : World} (h : Rdd r s p W) {x : Int} (hx : x = (q : Nat)) : Rdd r s q (W.setCell ⟨r, 1, none⟩ (.int .i64 x)) := by
  subst hx
  exact row_setC h
theorem Rdd.keep {r : Nat} {s : ByteArray} {p : Nat} {W w' : World} (h : Rdd r s p W) (hb : Below W.heap.size W w') : Rdd r s p w' := blk_keep hb h
theorem rfr_drew {r : Nat} {W w' : World} (h : RFr r W w') (n : Nat) : RFr r W (w'.drewN n) := ⟨h.os, h.tape, h.output, h.size, h.keep⟩
set_option maxRecDepth 100000 in
set_option maxHeartbeats 3200000 in
theorem dnext_any (r : Nat) (s : ByteArray) (p : Nat) (W : World) (hr : Rdd r s p W) (hp : p ≤ s.size) :
    Calls Tryz.prog (31) #[.pointer (some ⟨r, 0, none⟩)] W fun e w' => e = .returned (.int .u8 (nx s p).toNat) ∧ ∃ m, w' = W.drewN m := by
  obtain ⟨c0, c1, _⟩ := row_twoD hr
  obtain ⟨v, HV⟩ := hid_name (nx s p)
  rw [HV.out]
  by_cases hlt : p < s.size
  · have hv : s[p] = v := by rw [← HV.out]; unfold nx; rw [dif_pos hlt]
    have q : decide ((p : Int) = (s.size : Int)) = false := by rw [decide_eq_false_iff_not]; omega
    have q2 : ((p : Int) == (s.size : Int)) = false := by rw [beq_eq_false_iff_ne]; omega
    go_enter Tryz.func31, Tryz.ntmps31
    go_wp2_with fail
    go_quiet (fail)
    go_wp2_with fail
    go_quiet (fail)
    go_wp2
    go_ret
    exact ⟨rfl, _, World.drewN_drewN _ _ _⟩
  · have hv : v = 0 := by rw [← HV.out]; unfold nx; rw [dif_neg hlt]
    obtain rfl : p = s.size := by omega
    have q2 : ((s.size : Int) == (s.size : Int)) = true := by simp
    go_enter Tryz.func31, Tryz.ntmps31
    go_wp2_with fail
    go_quiet (fail)
    go_wp2
    go_ret
    exact ⟨by rw [hv]; rfl, _, rfl⟩
set_option maxRecDepth 100000 in
set_option maxHeartbeats 3200000 in
theorem dtake_any (r : Nat) (s word : ByteArray) (p : Nat) (W : World) (hr : Rdd r s p W) (hs : s.size ≤ 100000) (hw : Wo s p word.data.toList) (hp : p ≤ s.size) :
    Calls Tryz.prog (32) #[.pointer (some ⟨r, 0, none⟩), .string word] W fun e w' => e = .returned (.tuple #[]) ∧ Rdd r s (p + word.size) w' ∧ RFr r W w' := by
  have HR : Hid (Rdd r s p W) := hr
  have HW : Hid (Wo s p word.data.toList) := hw
  have hwl : word.data.toList.length = word.size := by rw [Array.length_toList]; rfl
  have hws : p + word.size ≤ s.size := by
    by_cases h0 : word.size = 0
    · omega
    · have := hw.le (by omega)
      omega
  clear hr hw
  go_enter Tryz.func32, Tryz.ntmps32
  go_wp2_with fail
  go_loopw [7] (fun x wr => ∃ i : Nat, i ≤ word.size ∧ x = .int .i64 i ∧ Hid (Rdd r s (p + i) wr) ∧ Hid (RFr r W wr)) (fun x _ => word.size - (intOf x).toNat)
  case atStart => exact ⟨0, Nat.zero_le _, rfl, HR.out, RFr.refl _ _⟩
  case round =>
    clear HR
    obtain ⟨i, hik, rfl, HR, HF⟩ := hrel
    by_cases hlt : i < word.size
    · obtain ⟨c0, c1, f1⟩ := row_twoD HR.out
      have HNx : Hid (nx s (p + i) = word[i]) := (by
        obtain ⟨h1, h2⟩ := HW.out.at_ i (by omega)
        show nx s (p + i) = _
        unfold nx
        rw [dif_pos h1, h2]
        rfl)
      obtain ⟨v, HV⟩ := hid_name word[i]
      have HC : Hid (∀ n, Calls Tryz.prog (31) #[.pointer (some ⟨r, 0, none⟩)] (wr.drewN n) fun e w' => e = .returned (.int .u8 v.toNat) ∧ ∃ m, w' = (wr.drewN n).drewN m) := fun n => by
        have h := dnext_any r s (p + i) (wr.drewN n) (HR.out.drew n) (by omega)
        rw [HNx.out, HV.out] at h
        exact h
      have hv : word[i] = v := HV.out
      go_wp2_with fail
      go_quiet ((go_at_call 31; exact Calls.quiet_of (HC.out _)))
      go_wp2
      have HR2 : Hid _ := (HR.out.drew nq).set (x := (p : Int) + (i : Int) + 1) (q := p + (i + 1)) (by omega)
      have HF2 : Hid _ := (rfr_drew HF.out nq).set (j := 1) (v := .int .i64 ((p : Int) + (i : Int) + 1))
      go_roundw
      case rel => exact ⟨i + 1, by omega, by go_num, HR2, HF2⟩
      case measure => simp [intOf]; omega
    · obtain rfl : i = word.size := by omega
      go_wp2
      go_end0
      exact ⟨rfl, HR.out, HF.out⟩
end Go.Proofs.YtmfijliladancaaGreatDoor
