/-
  How long the text of a record is.
-/
import Derived.Test.YtmfijliladancaaGreatDoorXDwE
import Derived.Test.YtmfijliladancaaGreatDoorXBValid
import Derived.Lib.ItoaLen
namespace Go.Proofs.YtmfijliladancaaGreatDoor
open Go.RowKit
/-- The names below a node have at most 12 bytes. -/
inductive Nm12 : Tr → Prop where
  | mk (id : Int) (nm : ByteArray) (rep kind : Int) (sub : List Tr) (hn : ∀ j (h : j < sub.length), sub[j].nm.size ≤ 12) (each : ∀ j (h : j < sub.length), Nm12 sub[j]) : Nm12 (.node id nm rep kind sub)
theorem dwL_each {S : Type} (st : S → List Tr → Tr → Bool × S) (path : List Tr) : ∀ (ts : List Tr) (s : S), (wkL st s path ts).1 = true → ∀ j (h : j < ts.length), ∃ s', (wkT st s' path ts[j]).1 = true
  | [], s => fun _ j h => absurd h (Nat.not_lt_zero _)
  | t :: ts, s => fun h j hj => by
    rw [wkL] at h
    by_cases h1 : (wkT st s path t).1 = true
    · rw [if_pos h1] at h
      cases j with
      | zero => exact ⟨s, h1⟩
      | succ j => exact dwL_each st path ts _ h j (by simpa using hj)
    · rw [if_neg h1] at h
      exact absurd h h1
theorem dwN_ok : ∀ (ts ahead : List Tr), nmsL ahead ts = true → ∀ j (h : j < ts.length), nameOk ts[j].nm = true
  | [], _, _, j, h => absurd h (Nat.not_lt_zero _)
  | t :: ts, ahead, h, j, hj => by
    rw [nmsL] at h
    simp only [Bool.and_eq_true] at h
    cases j with
    | zero => exact h.1.1
    | succ j => exact dwN_ok ts _ h.2 j (by simpa using hj)
theorem nm12_of : ∀ (n : Nat) (t : Tr), SizeOf.sizeOf t < n → ∀ (path : List Tr), (wkT stM () path t).1 = true → Nm12 t
  | 0, t, h => absurd h (Nat.not_lt_zero _)
  | n + 1, t, hsz => fun path hM => by
    have hsub := t.sub_size
    rw [wkT_eq] at hM
    by_cases h1 : (stM () path t).1 = true
    · rw [if_pos h1] at hM
      have hn : nmsL [] t.sub = true := h1
      have he := dwL_each stM (path ++ [t]) t.sub _ hM
      have hk := dwN_ok t.sub [] hn
      cases t with
      | node id nm rep kind sub =>
        refine .mk id nm rep kind sub (fun j h => ?_) (fun j h => ?_)
        · have := hk j h
          simp only [nameOk, Bool.and_eq_true, decide_eq_true_eq] at this
          exact this.1.2
        · obtain ⟨s', h2⟩ := he j h
          exact nm12_of n sub[j] (by have := hsub j h; simp only [Tr.sub] at this; omega) _ h2
    · rw [if_neg h1] at hM
      exact absurd hM h1
theorem nm12_right {t : Tr} (h : vldN t = 0) : Nm12 t := nm12_of _ t (Nat.lt_succ_self _) [] (right_parts h).2.2.2.1
theorem wtL_next (ds : List Dt) (n : Nat) (h : n < ds.length) : wtL (ds.take (n + 1)) = wtL (ds.take n) + wt ds[n] := by
  rw [List.take_succ_eq_append_getElem h, wtL_app, wtL, wtL]
  omega
theorem lT_len (ds : List Dt) (us : List (List UInt8)) (hl : us.length = ds.length) (h : ∀ j (h : j < ds.length) (h' : j < us.length), us[j].length + 16 ≤ 48 * wt ds[j]) : ∀ n, n ≤ ds.length → (lT us n).length ≤ 48 * wtL (ds.take n)
  | 0, _ => by rw [lT]; exact Nat.zero_le _
  | n + 1, hn => by
    have ih := lT_len ds us hl h n (by omega)
    have hx := h n (by omega) (by omega)
    rw [lT, wtL_next ds n (by omega)]
    have e : us.getD n [] = us[n]'(by omega) := by simp [List.getD, show n < us.length by omega]
    rw [e]
    simp only [List.length_append]
    split
    · simp only [List.length_nil]; omega
    · simp only [List.length_cons, List.length_nil]; omega
theorem gT_len (ts : List Tr) (ds : List Dt) (us : List (List UInt8)) (hl : us.length = ds.length) (ht : ts.length = ds.length) (hn : ∀ j (h : j < ts.length), ts[j].nm.size ≤ 12) (h : ∀ j (h : j < ds.length) (h' : j < us.length), us[j].length + 16 ≤ 48 * wt ds[j]) : ∀ n, n ≤ ds.length → (gT ts us n).length ≤ 48 * wtL (ds.take n)
  | 0, _ => by rw [gT]; exact Nat.zero_le _
  | n + 1, hle => by
    have ih := gT_len ts ds us hl ht hn h n (by omega)
    have hx := h n (by omega) (by omega)
    have hm := hn n (by omega)
    rw [gT, wtL_next ds n (by omega)]
    have e : us.getD n [] = us[n]'(by omega) := by simp [List.getD, show n < us.length by omega]
    have e2 : ts.getD n default = ts[n]'(by omega) := by simp [List.getD, show n < ts.length by omega]
    have e3 : (ts[n]'(by omega)).nm.data.toList.length = (ts[n]'(by omega)).nm.size := by rw [Array.length_toList]; rfl
    rw [e, e2]
    simp only [List.length_append, e3, List.length_cons, List.length_nil]
    split <;> simp only [List.length_cons, List.length_nil] <;> omega
theorem vx_len {v : Vl} (hin : v.In) (hok : OkV v.k v.k v.n v.s.size) : (vx v).length + 16 ≤ 48 * (1 + v.s.size) := by
  obtain ⟨k, n, s⟩ := v
  obtain ⟨_, hn, _⟩ := hin
  dsimp only at hn ⊢
  have hit := Lib.itoa_length_le n hn.1 hn.2
  obtain ⟨_, h⟩ := hok
  dsimp only at h
  rcases h with ⟨rfl, _⟩ | ⟨rfl, _⟩ | ⟨rfl | rfl, _⟩ | ⟨rfl, _⟩
  · have := boolB_le n
    show (boolB n).length + 16 ≤ _
    omega
  · show (Lib.itoa n).length + 16 ≤ _
    omega
  · show (Lib.itoa n).length + 16 ≤ _
    omega
  · show (120 :: hx (Um.u64 n) 16).length + 16 ≤ _
    rw [List.length_cons, hx_len]
    omega
  · have hb := bysT_len s.data.toList
    replace hb : (bysT s.data.toList).length ≤ 3 * s.size := by
      rw [Array.length_toList] at hb
      exact hb
    show (34 :: (bysT s.data.toList ++ [34])).length + 16 ≤ _
    simp only [List.length_cons, List.length_append, List.length_nil]
    omega
/-- The text of a right datum is not much longer than the datum is heavy. -/
theorem tx_bound : ∀ (n : Nat) (d : Dt), SizeOf.sizeOf d < n → ∀ (t : Tr) (one : Bool), d.In → Nm12 t → chk one t d = 0 → (tx one t d).length + 16 ≤ 48 * wt d
  | 0, d, h => absurd h (Nat.not_lt_zero _)
  | n + 1, d, hsz => fun t one hin hnm hck => by
    have hf := d.f_size
    have hl := d.l_size
    have inF := hin.ofF
    have inL := hin.ofL
    have inV := hin.val
    obtain ⟨hn12, hsub⟩ : (∀ j (h : j < t.sub.length), t.sub[j].nm.size ≤ 12) ∧ ∀ j (h : j < t.sub.length), Nm12 t.sub[j] := by cases hnm with | mk id nm rep kind sub hn each => exact ⟨hn, each⟩
    rw [wt_eq, tx_eq]
    cases kd_of hck with
    | list l h1 h3 hl40 each =>
      rw [if_pos ⟨h1, h3⟩]
      have hb := lT_len l (txL t l) (txL_len t l) (fun j h h' => by
        rw [txL_get t l j h h']
        exact tx_bound n l[j] (by have := hl j h; simp only [Dt.l] at this; omega) t true (inL j h) hnm (each j h)) l.length (Nat.le_refl _)
      rw [List.take_length] at hb
      simp only [Dt.l, Dt.f, List.length_cons, List.length_append, List.length_nil]
      omega
    | none h1 h2 =>
      rw [if_neg (by omega), if_pos ⟨h1, rfl⟩]
      simp only [List.length_cons, List.length_nil]
      omega
    | group f h1 hk hfl each =>
      rw [if_neg h1, if_neg (by simp [Dt.no]), if_pos hk]
      have hb := gT_len t.sub f (txF t.sub f) (by rw [txF_len t.sub f hfl, hfl]) hfl.symm hn12 (fun j h h' => by
        rw [txF_get t.sub f hfl j (by omega) h h']
        exact tx_bound n f[j] (by have := hf j h; simp only [Dt.f] at this; omega) t.sub[j] false (inF j h) (hsub j (by omega)) (each j (by omega) h)) t.sub.length (by omega)
      rw [show f.take t.sub.length = f by rw [← hfl, List.take_length]] at hb
      simp only [Dt.l, Dt.f, List.length_cons, List.length_append, List.length_nil]
      omega
    | leaf v h1 hk hv ok =>
      rw [if_neg h1, if_neg (by simp [Dt.no]), if_neg hk]
      have hb := vx_len inV ok
      simp only [Dt.v] at hb ⊢
      omega
end Go.Proofs.YtmfijliladancaaGreatDoor
