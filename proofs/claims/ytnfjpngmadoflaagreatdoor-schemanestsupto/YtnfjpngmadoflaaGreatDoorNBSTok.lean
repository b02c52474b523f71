/-
  The words of a text that is told as a list of bytes.
  A schema's text as a list of bytes, and where its words stand: the words, without the program.
-/
import Derived.Test.YtnfjpngmadoflaaGreatDoorNBSId
import Derived.Lib.ItoaNum
import Derived.Test.YtnfjpngmadoflaaGreatDoorNBIds
namespace Go.Proofs.YtnfjpngmadoflaaGreatDoor
open Go.RowKit
theorem ext_mid {s : ByteArray} {pre m rest : List UInt8} (hs : s.data.toList = pre ++ (m ++ rest)) : s.extract pre.length (pre.length + m.length) = ⟨m.toArray⟩ := by
  have h : (s.extract pre.length (pre.length + m.length)).data.toList = m := by
    rw [ByteArray.data_extract, Array.toList_extract, hs]
    simp [List.extract]
  have e : ∀ x : ByteArray, x = ⟨x.data.toList.toArray⟩ := fun x => by simp
  rw [e (s.extract _ _), h]
/-- Bytes that are blanks. -/
def Bls (l : List UInt8) : Prop := ∀ x ∈ l, isBl x = true
theorem Bls.nil : Bls [] := fun x h => by simp at h
theorem Bls.app {a b : List UInt8} (h1 : Bls a) (h2 : Bls b) : Bls (a ++ b) := fun x h => (List.mem_append.1 h).elim (h1 x) (h2 x)
theorem at_of {s : ByteArray} {pre m rest : List UInt8} (hs : s.data.toList = pre ++ (m ++ rest)) (k : Nat) (h : k < s.size) (h1 : pre.length ≤ k) (h2 : k < pre.length + m.length) : s[k] = m[k - pre.length]'(by omega) := by
  obtain ⟨h3, h4⟩ := at_mid hs (i := k - pre.length) (by omega)
  have e : pre.length + (k - pre.length) = k := by omega
  rw [← h4]
  congr 1
  omega
theorem stop_of {s : ByteArray} {pre m rest : List UInt8} (hs : s.data.toList = pre ++ (m ++ rest)) {p : UInt8 → Bool} (hp : Stop p rest) (h : pre.length + m.length < s.size) : p s[pre.length + m.length] = false := by
  cases rest with
  | nil =>
    have := sz_mid hs
    simp at this
    omega
  | cons c t =>
    have hs' : s.data.toList = (pre ++ m) ++ ([c] ++ t) := by rw [hs]; simp
    have := at_of hs' (pre.length + m.length) h (by simp) (by simp)
    rw [this]
    exact hp _ t (by simp)
/-- A word stands behind blanks. -/
theorem wd_tok {s : ByteArray} {pre bl w rest : List UInt8} (hs : s.data.toList = pre ++ (bl ++ (w ++ rest))) (hm : s.size ≤ 100000) (hb : Bls bl) (ht : IsTok w rest) (hnb : ∀ c t, w = c :: t → isBl c = false) : WdAt s pre.length (pre.length + bl.length) (pre.length + bl.length + w.length) := by
  have hs' : s.data.toList = (pre ++ bl) ++ (w ++ rest) := by rw [hs]; simp
  have hl : (pre ++ bl).length = pre.length + bl.length := by simp
  have hsz := sz_mid hs'
  rw [hl] at hsz
  refine ⟨by omega, by omega, by omega, fun k h h1 h2 => ?_, fun h => ?_, fun W => ?_⟩
  · rw [at_of hs k h h1 h2]
    exact hb _ (List.getElem_mem _)
  · rcases ht with ⟨rfl, rfl⟩ | ⟨c, t, rfl, _⟩
    · simp at hsz; omega
    · have := at_of hs' (pre.length + bl.length) h (by simp) (by simp)
      rw [this]
      exact hnb _ t (by simp [hl])
  · rcases ht with ⟨rfl, rfl⟩ | ⟨c, t, rfl, ht⟩
    · have e : pre.length + bl.length = s.size := by simp at hsz; omega
      rw [List.length_nil, Nat.add_zero, e]
      exact wordEnd_end s W
    · have hp : pre.length + bl.length < s.size := by rw [hsz]; simp; omega
      have e0 : s[pre.length + bl.length] = c := by
        have := at_of hs' (pre.length + bl.length) hp (by simp) (by simp)
        rw [this]
        simp [hl]
      have he : ∀ k (h : k < s.size), pre.length + bl.length < k → k < pre.length + bl.length + (c :: t).length → s[k] ∈ t := fun k h h1 h2 => by
        have := at_of hs' k h (by omega) (by omega)
        rw [this]
        obtain ⟨j, hj⟩ : ∃ j, k - (pre ++ bl).length = j + 1 := ⟨k - (pre ++ bl).length - 1, by omega⟩
        simp only [hj, List.getElem_cons_succ]
        exact List.getElem_mem _
      rcases ht with ⟨h1, h2, h3⟩ | ⟨h1, h2, h3⟩ | ⟨h1, h2, rfl⟩
      · refine wordEnd_lt s _ _ hm hp (by simp) (by omega) (by rw [e0]; exact h1) (fun k h ha hb => h2 _ (he k h ha hb)) (fun h => ?_) W
        have := stop_of hs' h3 (by rw [hl]; exact h)
        simp only [hl] at this
        exact this
      · refine wordEnd_dg s _ _ hm hp (by simp) (by omega) (by rw [e0]; simp [isLt, isSm, isBg]; omega) (by rw [e0]; exact h1) (fun k h ha hb => h2 _ (he k h ha hb)) (fun h => ?_) W
        have := stop_of hs' h3 (by rw [hl]; exact h)
        simp only [hl] at this
        exact this
      · exact wordEnd_one s _ hm hp (by rw [e0]; exact h1) (by rw [e0]; exact h2) W
/-! The digits of a number. -/
theorem dd_all : ∀ (n u : Nat), u < n → ∀ x ∈ Lib.decDigits u, isDg x = true
  | 0, u, h => absurd h (Nat.not_lt_zero _)
  | n + 1, u, h => fun x hx => by
    rw [Lib.decDigits] at hx
    split at hx
    · rename_i h10
      rw [List.mem_singleton.1 hx]
      simp [isDg, UInt8.toNat_ofNat']
      omega
    · rcases List.mem_append.1 hx with hx | hx
      · exact dd_all n (u / 10) (by omega) x hx
      · rw [List.mem_singleton.1 hx]
        simp [isDg, UInt8.toNat_ofNat']
        omega
theorem dd_head : ∀ (n u : Nat), u < n → 1 ≤ u → ∃ c t, Lib.decDigits u = c :: t ∧ c.toNat ≠ 48
  | 0, u, h => absurd h (Nat.not_lt_zero _)
  | n + 1, u, h => fun h1 => by
    rw [Lib.decDigits]
    split
    · exact ⟨_, [], rfl, by simp [UInt8.toNat_ofNat']; omega⟩
    · obtain ⟨c, t, e, hc⟩ := dd_head n (u / 10) (by omega) (by omega)
      exact ⟨c, t ++ [UInt8.ofNat (48 + u % 10)], by rw [e]; rfl, hc⟩
theorem decFrom_app : ∀ (l : List UInt8) (acc : Nat) (b : UInt8), Lib.decFrom acc (l ++ [b]) = (Lib.decFrom acc l).bind fun a => (Lib.digitVal b).map fun d => a * 10 + d
  | [], acc, b => by
    simp only [List.nil_append, Lib.decFrom, Option.bind_some]
    cases Lib.digitVal b <;> rfl
  | c :: l, acc, b => by
    simp only [List.cons_append, Lib.decFrom]
    cases Lib.digitVal c with
    | none => rfl
    | some d => exact decFrom_app l _ b
theorem dd_from : ∀ (n u : Nat), u < n → Lib.decFrom 0 (Lib.decDigits u) = some u
  | 0, u, h => absurd h (Nat.not_lt_zero _)
  | n + 1, u, h => by
    have hd : ∀ v, v < 10 → Lib.digitVal (UInt8.ofNat (48 + v)) = some v := fun v hv => by
      have : (UInt8.ofNat (48 + v)).toNat = 48 + v := by simp [UInt8.toNat_ofNat']; omega
      rw [Lib.digitVal, this, if_pos (by omega)]
      simp
    rw [Lib.decDigits]
    split
    · rename_i h10
      simp only [Lib.decFrom, hd u h10]
      simp
    · rw [decFrom_app, dd_from n (u / 10) (by omega), hd _ (by omega)]
      simp
      omega
theorem dd_atoi (u : Nat) (h : 1 ≤ u) : Lib.atoi (Lib.decDigits u) = some (u : Int) := by
  have h1 := dd_from (u + 1) u (by omega)
  have h2 := dd_all (u + 1) u (by omega)
  obtain ⟨c, t, e, _⟩ := dd_head (u + 1) u (by omega) h
  rw [e] at h1 h2 ⊢
  have hc := h2 c (by simp)
  have n1 : (c == 45) = false := by
    rw [beq_eq_false_iff_ne]
    rintro rfl
    simp [isDg] at hc
  have n2 : (c == 43) = false := by
    rw [beq_eq_false_iff_ne]
    rintro rfl
    simp [isDg] at hc
  simp only [Lib.atoi, n1, n2, Bool.false_eq_true, if_false, Lib.decNat, List.isEmpty_cons, h1, Option.map_some]
theorem dd_len (u : Nat) (h : u ≤ 1000) : 1 ≤ (Lib.decDigits u).length ∧ (Lib.decDigits u).length ≤ 4 := by
  rw [Lib.decDigits_length]
  refine ⟨Lib.nDigits_pos u, ?_⟩
  by_cases h1 : u < 10
  · rw [Lib.nDigits_small h1]; omega
  · rw [Lib.nDigits_big h1]
    by_cases h2 : u / 10 < 10
    · rw [Lib.nDigits_small h2]; omega
    · rw [Lib.nDigits_big h2]
      by_cases h3 : u / 10 / 10 < 10
      · rw [Lib.nDigits_small h3]; omega
      · rw [Lib.nDigits_big h3, Lib.nDigits_small (by omega)]; omega
end Go.Proofs.YtnfjpngmadoflaaGreatDoor

namespace Go.Proofs.YtnfjpngmadoflaaGreatDoor
open Go.RowKit
def openW : List ByteArray := [⟨#[123]⟩]
def shutW : List ByteArray := [⟨#[125]⟩]
mutual
/-- A node's text stands from a place up to another one. -/
inductive RdT (s : ByteArray) : Nat → Nat → Nat → Tr → Prop
  | leaf {deep p q5 a5 q : Nat} {id : Int} {nm : ByteArray} {rep kind : Nat} (hh : HdAt s p q5 id nm rep kind) (hrep : rep ≤ 100) (hkind : kind ≤ 100) (hk0 : kind ≠ 0) (h5 : WdAt s q5 a5 q) (h5n : a5 < q) (h5w : Lib.idxOfS semiW (s.extract a5 q) = 0) : RdT s deep p q (.node id nm (rep + 1 : Nat) (kind : Nat) [])
  | group {deep p q5 a6 n6 p7 a8 q : Nat} {id : Int} {nm : ByteArray} {rep : Nat} {sub : List Tr} (hh : HdAt s p q5 id nm rep 0) (hrep : rep ≤ 100) (hd : deep < 6) (hn : sub.length ≤ 1048576) (h6 : WdAt s q5 a6 n6) (h6n : a6 < n6) (h6w : Lib.idxOfS openW (s.extract a6 n6) = 0) (hl : RdL s (deep + 1) n6 p7 sub) (h8 : WdAt s p7 a8 q) (h8n : a8 < q) (h8w : Lib.idxOfS shutW (s.extract a8 q) = 0) : RdT s deep p q (.node id nm (rep + 1 : Nat) (0 : Nat) sub)
/-- .. the texts of nodes, one behind the other. -/
inductive RdL (s : ByteArray) : Nat → Nat → Nat → List Tr → Prop
  | nil {deep p : Nat} : RdL s deep p p []
  | cons {deep p q q' : Nat} {t : Tr} {ts : List Tr} (ht : RdT s deep p q t) (hl : RdL s deep q q' ts) : RdL s deep p q' (t :: ts)
end
def repB (r : Int) : List UInt8 := (repW.getD (r - 1).toNat ⟨#[]⟩).data.toList
def kindB (k : Int) : List UInt8 := (kindW.getD k.toNat ⟨#[]⟩).data.toList
/-- What is told of a node by itself. -/
def hdTx (id : Int) (nm : ByteArray) (rep kind : Int) : List UInt8 := repB rep ++ (32 :: (kindB kind ++ (32 :: (nm.data.toList ++ (32 :: (35 :: Lib.itoa id))))))
mutual
/-- A node's text. -/
def ntT (bl : List UInt8) : Tr → List UInt8
  | .node id nm rep kind sub => bl ++ (hdTx id nm rep kind ++ if kind = 0 then 32 :: 123 :: 10 :: (ntL (bl ++ [32, 32]) sub ++ (bl ++ [125, 10])) else [59, 10])
/-- .. of nodes. -/
def ntL (bl : List UInt8) : List Tr → List UInt8
  | [] => []
  | t :: ts => ntT bl t ++ ntL bl ts
end
/-- A node that is right, so deep. -/
inductive Rt : Nat → Tr → Prop where
  | mk (deep : Nat) (id : Int) (nm : ByteArray) (rep kind : Int) (sub : List Tr) (hd : deep ≤ 6) (hi : 1 ≤ id ∧ id ≤ 1000) (hn : nameOk nm = true) (hr : 1 ≤ rep ∧ rep ≤ 3) (hk : 0 ≤ kind ∧ kind ≤ 5) (hg : kind = 0 ↔ 0 < sub.length) (hl : sub.length ≤ 1048576) (each : ∀ j (h : j < sub.length), Rt (deep + 1) sub[j]) : Rt deep (.node id nm rep kind sub)
theorem let_of {p : UInt8 → Bool} {l : List UInt8} (h : l.all p = true) : ∀ x ∈ l, p x = true := List.all_eq_true.1 h
theorem blk_lt {c : UInt8} (h : isLt c = true) : isBl c = false := by
  simp only [isLt, isSm, isBg, isBl, Bool.or_eq_true, decide_eq_true_eq] at h ⊢
  rw [decide_eq_false_iff_not]
  omega
theorem sm_lt {c : UInt8} (h : smallB c = true) : isLt c = true := by
  simp only [smallB, decide_eq_true_eq] at h
  simp only [isLt, isSm, Bool.or_eq_true, decide_eq_true_eq]
  exact .inl h
theorem stop_sp (p : UInt8 → Bool) (h : p 32 = false) (r : List UInt8) : Stop p (32 :: r) := fun c t e => by injection e with e1 _; rw [← e1]; exact h
/-- The words ahead of a node's end. -/
theorem hd_at {s : ByteArray} {pre bl rest : List UInt8} {id : Int} {nm : ByteArray} {rep kind : Int} (hs : s.data.toList = pre ++ (bl ++ (hdTx id nm rep kind ++ rest))) (hm : s.size ≤ 100000) (hb : Bls bl) (hi : 1 ≤ id ∧ id ≤ 1000) (hn : nameOk nm = true) (hr : 1 ≤ rep ∧ rep ≤ 3) (hk : 0 ≤ kind ∧ kind ≤ 5) (hst : Stop isDg rest) :
    HdAt s pre.length (pre ++ (bl ++ hdTx id nm rep kind)).length id nm (rep - 1).toNat kind.toNat := by
  have hR : (repB rep).all isLt = true ∧ 0 < (repB rep).length ∧ Lib.idxOfS repW ⟨(repB rep).toArray⟩ = ((rep - 1).toNat : Int) := by
    have : rep = 1 ∨ rep = 2 ∨ rep = 3 := by omega
    rcases this with rfl | rfl | rfl <;> decide
  have hK : (kindB kind).all isLt = true ∧ 0 < (kindB kind).length ∧ Lib.idxOfS kindW ⟨(kindB kind).toArray⟩ = (kind.toNat : Int) := by
    have : kind = 0 ∨ kind = 1 ∨ kind = 2 ∨ kind = 3 ∨ kind = 4 ∨ kind = 5 := by omega
    rcases this with rfl | rfl | rfl | rfl | rfl | rfl <;> decide
  obtain ⟨u, rfl⟩ : ∃ u : Nat, id = u := ⟨id.toNat, by omega⟩
  have hit : Lib.itoa (u : Int) = Lib.decDigits u := by
    unfold Lib.itoa
    rw [if_neg (by omega)]
    simp
  simp only [nameOk, Bool.and_eq_true, decide_eq_true_eq] at hn
  have hns : nm.data.toList.length = nm.size := by simp
  have tok : ∀ (l r : List UInt8), l.all isLt = true → 0 < l.length → Stop isLt r → IsTok l r ∧ ∀ c t, l = c :: t → isBl c = false := fun l r h1 h2 h3 => by
    cases l with
    | nil => simp at h2
    | cons c t =>
      simp only [List.all_cons, Bool.and_eq_true] at h1
      refine ⟨.inr ⟨c, t, rfl, .inl ⟨h1.1, let_of h1.2, h3⟩⟩, fun c' t' e => ?_⟩
      injection e with e1 _
      rw [← e1]
      exact blk_lt h1.1
  have b1 : Bls [32] := fun x hx => by rw [List.mem_singleton.1 hx]; rfl
  have q1 : s.data.toList = pre ++ (bl ++ (repB rep ++ (32 :: (kindB kind ++ (32 :: (nm.data.toList ++ (32 :: (35 :: (Lib.decDigits u ++ rest))))))))) := by
    rw [hs, hdTx, hit]; simp
  have q2 : s.data.toList = (pre ++ bl ++ repB rep) ++ ([32] ++ (kindB kind ++ (32 :: (nm.data.toList ++ (32 :: (35 :: (Lib.decDigits u ++ rest))))))) := by
    rw [q1]; simp
  have q3 : s.data.toList = (pre ++ bl ++ repB rep ++ [32] ++ kindB kind) ++ ([32] ++ (nm.data.toList ++ (32 :: (35 :: (Lib.decDigits u ++ rest))))) := by
    rw [q1]; simp
  have q4 : s.data.toList = (pre ++ bl ++ repB rep ++ [32] ++ kindB kind ++ [32] ++ nm.data.toList) ++ ([32] ++ ((35 :: Lib.decDigits u) ++ rest)) := by
    rw [q1]; simp
  have t1 := tok (repB rep) (32 :: (kindB kind ++ (32 :: (nm.data.toList ++ (32 :: (35 :: (Lib.decDigits u ++ rest))))))) hR.1 hR.2.1 (stop_sp _ (by decide) _)
  have t2 := tok (kindB kind) (32 :: (nm.data.toList ++ (32 :: (35 :: (Lib.decDigits u ++ rest))))) hK.1 hK.2.1 (stop_sp _ (by decide) _)
  have hnl : nm.data.toList.all isLt = true := List.all_eq_true.2 fun x hx => sm_lt (let_of hn.2 x hx)
  have t3 := tok nm.data.toList (32 :: (35 :: (Lib.decDigits u ++ rest))) hnl (by omega) (stop_sp _ (by decide) _)
  have t4 : IsTok (35 :: Lib.decDigits u) rest := .inr ⟨35, _, rfl, .inr (.inl ⟨rfl, dd_all (u + 1) u (by omega), hst⟩)⟩
  have w1 := wd_tok q1 hm hb t1.1 t1.2
  have w2 := wd_tok q2 hm b1 t2.1 t2.2
  have w3 := wd_tok q3 hm b1 t3.1 t3.2
  have w4 := wd_tok q4 hm b1 t4 (fun c t e => by injection e with e1 _; rw [← e1]; decide)
  have e1 : s.extract (pre.length + bl.length) (pre.length + bl.length + (repB rep).length) = ⟨(repB rep).toArray⟩ := by
    have h : s.data.toList = (pre ++ bl) ++ (repB rep ++ (32 :: (kindB kind ++ (32 :: (nm.data.toList ++ (32 :: (35 :: (Lib.decDigits u ++ rest)))))))) := by rw [q1]; simp
    have := ext_mid h
    rwa [show (pre ++ bl).length = pre.length + bl.length by simp] at this
  have ex : ∀ (P b m r : List UInt8), s.data.toList = P ++ (b ++ (m ++ r)) → s.extract (P.length + b.length) (P.length + b.length + m.length) = ⟨m.toArray⟩ := fun P b m r h => by
    have h' : s.data.toList = (P ++ b) ++ (m ++ r) := by rw [h]; simp
    have := ext_mid h'
    rwa [show (P ++ b).length = P.length + b.length by simp] at this
  have e2 := ex _ _ _ _ q2
  have e3 := ex _ _ _ _ q3
  have e4 := ex _ _ _ _ q4
  have l1 : (pre ++ bl ++ repB rep).length = pre.length + bl.length + (repB rep).length := by simp; omega
  have l2 : (pre ++ bl ++ repB rep ++ [32] ++ kindB kind).length = (pre ++ bl ++ repB rep).length + [(32 : UInt8)].length + (kindB kind).length := by simp; omega
  have l3 : (pre ++ bl ++ repB rep ++ [32] ++ kindB kind ++ [32] ++ nm.data.toList).length = (pre ++ bl ++ repB rep ++ [32] ++ kindB kind).length + [(32 : UInt8)].length + nm.data.toList.length := by simp; omega
  have l4 : (pre ++ (bl ++ hdTx (u : Int) nm rep kind)).length = (pre ++ bl ++ repB rep ++ [32] ++ kindB kind ++ [32] ++ nm.data.toList).length + [(32 : UInt8)].length + (35 :: Lib.decDigits u).length := by simp [hdTx, hit]; omega
  have hnm : (⟨nm.data.toList.toArray⟩ : ByteArray) = nm := by simp
  rw [l1] at w2 e2 l2
  rw [l2] at w3 e3 l3
  rw [l3] at w4 e4 l4
  rw [l4]
  clear l1 l2 l3 l4 q1 q2 q3 q4 hs
  refine ⟨⟨_, _, _, _, _, _, _, Lib.decDigits u, ⟨w1, by omega, ?_⟩, ⟨w2, by omega, ?_⟩, ⟨w3, by omega, ?_, ?_⟩, ⟨w4, by simp, ?_, dd_atoi u (by omega)⟩⟩⟩
  · rw [e1]; exact hR.2.2
  · rw [e2]; exact hK.2.2
  · rw [e3, hnm]
  · rw [e3, hnm]
    intro h0
    have : nm[0] ∈ nm.data.toList := by
      have e : nm[0] = nm.data.toList[0]'(by omega) := rfl
      rw [e]
      exact List.getElem_mem _
    exact let_of hnl _ this
  · rw [e4]
    have hl := dd_len u (by omega)
    obtain ⟨c, t, e, hc⟩ := dd_head (u + 1) u (by omega) (by omega)
    exact ⟨by simp, hl.1, hl.2, fun h => by simp only [e, List.getElem_cons_zero]; exact hc⟩
/-- One byte that is a word of its own. -/
theorem one_tok (c : UInt8) (r : List UInt8) (h1 : isLt c = false) (h2 : c.toNat ≠ 35) : IsTok [c] r := .inr ⟨c, [], rfl, .inr (.inr ⟨h1, h2, rfl⟩)⟩
theorem ext_tok {s : ByteArray} {P b m r : List UInt8} (h : s.data.toList = P ++ (b ++ (m ++ r))) : s.extract (P.length + b.length) (P.length + b.length + m.length) = ⟨m.toArray⟩ := by
  have h' : s.data.toList = (P ++ b) ++ (m ++ r) := by rw [h]; simp
  have := ext_mid h'
  rwa [show (P ++ b).length = P.length + b.length by simp] at this
/-- What is written is where it is read: nodes, if each of them is so. -/
theorem rdL_of {s : ByteArray} {deep : Nat} {bl : List UInt8} : ∀ (ts : List Tr), (∀ t ∈ ts, ∀ (pre b0 rest : List UInt8), s.data.toList = pre ++ (b0 ++ (ntT bl t ++ rest)) → Bls b0 → ∃ pre', s.data.toList = pre' ++ (10 :: rest) ∧ RdT s deep pre.length pre'.length t) → ∀ (pre b0 rest : List UInt8), s.data.toList = pre ++ (b0 ++ (ntL bl ts ++ rest)) → Bls b0 → ∃ pre' b', Bls b' ∧ s.data.toList = pre' ++ (b' ++ rest) ∧ RdL s deep pre.length pre'.length ts
  | [], _, pre, b0, rest, hs, hb => ⟨pre, b0, hb, by rw [hs, ntL]; simp, .nil⟩
  | t :: ts, h, pre, b0, rest, hs, hb => by
    rw [ntL, List.append_assoc] at hs
    obtain ⟨p1, h1, h2⟩ := h t (by simp) pre b0 _ hs hb
    have h3 : s.data.toList = p1 ++ ([10] ++ (ntL bl ts ++ rest)) := h1
    obtain ⟨p2, b2, h4, h5, h6⟩ := rdL_of ts (fun x hx => h x (by simp [hx])) p1 [10] rest h3 (fun x hx => by rw [List.mem_singleton.1 hx]; rfl)
    exact ⟨p2, b2, h4, h5, .cons h2 h6⟩
/-- .. one node. -/
theorem rdT_any {s : ByteArray} (hm : s.size ≤ 100000) : ∀ (n : Nat) (t : Tr), SizeOf.sizeOf t < n → ∀ (deep : Nat), Rt deep t → ∀ (bl : List UInt8), Bls bl → ∀ (pre b0 rest : List UInt8), s.data.toList = pre ++ (b0 ++ (ntT bl t ++ rest)) → Bls b0 → ∃ pre', s.data.toList = pre' ++ (10 :: rest) ∧ RdT s deep pre.length pre'.length t
  | 0, t, h => absurd h (Nat.not_lt_zero _)
  | n + 1, t, hsz => fun deep hrt bl hbl pre b0 rest hs hb => by
    have hsub := Tr.sub_size t
    cases hrt with
    | mk _ id nm rep kind sub hd hi hn hr hk hg hl each =>
    obtain ⟨r, rfl⟩ : ∃ r : Nat, rep = (r + 1 : Nat) := ⟨(rep - 1).toNat, by omega⟩
    obtain ⟨k, rfl⟩ : ∃ k : Nat, kind = (k : Nat) := ⟨kind.toNat, by omega⟩
    have er : (((r + 1 : Nat) : Int) - 1).toNat = r := by omega
    have ek : ((k : Nat) : Int).toNat = k := by omega
    rw [ntT] at hs
    by_cases h0 : k = 0
    · subst h0
      rw [if_pos (show ((0 : Nat) : Int) = 0 from rfl)] at hs
      have q1 : s.data.toList = pre ++ ((b0 ++ bl) ++ (hdTx id nm (r + 1 : Nat) (0 : Nat) ++ (32 :: 123 :: 10 :: (ntL (bl ++ [32, 32]) sub ++ ((bl ++ [125, 10]) ++ rest))))) := by rw [hs]; simp
      have hh := hd_at q1 hm (hb.app hbl) hi hn hr hk (stop_sp _ (by decide) _)
      rw [er, ek] at hh
      have b1 : Bls [32] := fun x hx => by rw [List.mem_singleton.1 hx]; rfl
      have q2 : s.data.toList = (pre ++ ((b0 ++ bl) ++ hdTx id nm (r + 1 : Nat) (0 : Nat))) ++ ([32] ++ ([123] ++ (10 :: (ntL (bl ++ [32, 32]) sub ++ ((bl ++ [125, 10]) ++ rest))))) := by rw [q1]; simp
      have w6 := wd_tok q2 hm b1 (one_tok 123 _ (by decide) (by decide)) (fun c t e => by injection e with e1 _; rw [← e1]; decide)
      have e6 := ext_tok q2
      have q3 : s.data.toList = ((pre ++ ((b0 ++ bl) ++ hdTx id nm (r + 1 : Nat) (0 : Nat))) ++ [32] ++ [123]) ++ ([10] ++ (ntL (bl ++ [32, 32]) sub ++ ((bl ++ [125, 10]) ++ rest))) := by rw [q1]; simp
      have hb2 : Bls (bl ++ [32, 32]) := hbl.app fun x hx => by simp at hx; rw [hx]; rfl
      obtain ⟨p7, b7, hb7, h7, hr7⟩ := rdL_of (deep := deep + 1) sub (fun x hx pre b0 rest hs hb => by
        obtain ⟨j, hj, rfl⟩ := List.getElem_of_mem hx
        exact rdT_any hm n sub[j] (by have := hsub j hj; simp only [Tr.sub] at this; omega) (deep + 1) (each j hj) (bl ++ [32, 32]) hb2 pre b0 rest hs hb) _ _ _ q3 (fun x hx => by rw [List.mem_singleton.1 hx]; rfl)
      have q4 : s.data.toList = p7 ++ ((b7 ++ bl) ++ ([125] ++ (10 :: rest))) := by rw [h7]; simp
      have w8 := wd_tok q4 hm (hb7.app hbl) (one_tok 125 _ (by decide) (by decide)) (fun c t e => by injection e with e1 _; rw [← e1]; decide)
      have e8 := ext_tok q4
      have hpos : 0 < sub.length := hg.1 rfl
      have hdeep : deep < 6 := by
        have := each 0 hpos
        generalize sub[0] = x at this
        cases this
        omega
      have l3 : ((pre ++ ((b0 ++ bl) ++ hdTx id nm (r + 1 : Nat) (0 : Nat))) ++ [32] ++ [123]).length = (pre ++ ((b0 ++ bl) ++ hdTx id nm (r + 1 : Nat) (0 : Nat))).length + [(32 : UInt8)].length + [(123 : UInt8)].length := by rw [List.length_append, List.length_append]
      rw [l3] at hr7
      have l5 : (p7 ++ ((b7 ++ bl) ++ [125])).length = p7.length + (b7 ++ bl).length + [(125 : UInt8)].length := by simp; omega
      refine ⟨p7 ++ ((b7 ++ bl) ++ [125]), by rw [q4]; simp, ?_⟩
      rw [l5]
      exact .group hh (by omega) hdeep hl w6 (by simp) (by rw [e6]; decide) hr7 w8 (by simp) (by rw [e8]; decide)
    · rw [if_neg (by omega)] at hs
      have hsub0 : sub = [] := by
        cases sub with
        | nil => rfl
        | cons x xs => exact absurd (hg.2 (by simp)) (by omega)
      subst hsub0
      have q1 : s.data.toList = pre ++ ((b0 ++ bl) ++ (hdTx id nm (r + 1 : Nat) (k : Nat) ++ (59 :: 10 :: rest))) := by rw [hs]; simp
      have hh := hd_at q1 hm (hb.app hbl) hi hn hr hk (fun c t e => by injection e with e1 _; rw [← e1]; decide)
      rw [er, ek] at hh
      have q2 : s.data.toList = (pre ++ ((b0 ++ bl) ++ hdTx id nm (r + 1 : Nat) (k : Nat))) ++ ([] ++ ([59] ++ (10 :: rest))) := by rw [q1]; simp
      have w5 := wd_tok q2 hm Bls.nil (one_tok 59 _ (by decide) (by decide)) (fun c t e => by injection e with e1 _; rw [← e1]; decide)
      have e5 := ext_tok q2
      have l5 : ((pre ++ ((b0 ++ bl) ++ hdTx id nm (r + 1 : Nat) (k : Nat))) ++ [59]).length = (pre ++ ((b0 ++ bl) ++ hdTx id nm (r + 1 : Nat) (k : Nat))).length + ([] : List UInt8).length + [(59 : UInt8)].length := by rw [List.length_append]; rfl
      refine ⟨(pre ++ ((b0 ++ bl) ++ hdTx id nm (r + 1 : Nat) (k : Nat))) ++ [59], by rw [q1]; simp, ?_⟩
      rw [l5]
      exact .leaf hh (by omega) (by omega) h0 w5 (by simp) (by rw [e5]; decide)
end Go.Proofs.YtnfjpngmadoflaaGreatDoor
