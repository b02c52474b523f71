/-
  schema.namesAreRight: exact.
  schema.namesAreRight: exact.
-/
import Derived.Test.YtmfijliladancaaGreatDoorXBWkM
import Derived.Test.YtmfijliladancaaGreatDoorXBInB
namespace Go.Proofs.YtmfijliladancaaGreatDoor
open Go.RowKit
/-- The first place in a list at which something is so, or -1. -/
def Idx {α : Type} (p : α → Bool) (l : List α) (r : Int) : Prop := (r = -1 ∧ ∀ j (h : j < l.length), p l[j] = false) ∨ ∃ (i : Nat) (h : i < l.length), r = i ∧ p l[i] = true ∧ ∀ j (h : j < i), p l[j] = false
theorem Idx.any {α : Type} {p : α → Bool} {l : List α} {r : Int} (h : Idx p l r) : decide (0 ≤ r) = l.any p := by
  rcases h with ⟨rfl, h⟩ | ⟨i, hi, rfl, h1, _⟩
  · symm
    simp only [List.any_eq, show ¬ ((0 : Int) ≤ -1) by omega]
    rw [decide_eq_decide]
    constructor
    · rintro ⟨x, hx, hp⟩
      obtain ⟨j, hj, rfl⟩ := List.getElem_of_mem hx
      rw [h j hj] at hp
      cases hp
    · intro h; cases h
  · have : l.any p = true := List.any_eq_true.2 ⟨l[i], List.getElem_mem hi, h1⟩
    rw [this]
    simp
set_option maxRecDepth 100000 in
set_option maxHeartbeats 1600000 in
theorem isSmall_any (b : UInt8) (W : World) : Calls Tryz.prog 65 #[.int .u8 b.toNat] W fun e w' => e = .returned (.bool (decide (97 ≤ b.toNat ∧ b.toNat ≤ 122))) ∧ w' = W := by
  by_cases h1 : 97 ≤ b.toNat
  all_goals
    by_cases h2 : b.toNat ≤ 122
    all_goals
      go_enter Tryz.func65, Tryz.ntmps65
      go_wp2
      all_goals go_ret
      all_goals simp [h1, h2]
      all_goals omega
def smallB (b : UInt8) : Bool := decide (97 ≤ b.toNat ∧ b.toNat ≤ 122)
def nameOk (s : ByteArray) : Bool := decide (1 ≤ s.size ∧ s.size ≤ 12) && s.data.toList.all smallB
set_option maxRecDepth 100000 in
set_option maxHeartbeats 1600000 in
theorem isName_any (s : ByteArray) (W : World) : Calls Tryz.prog 47 #[.string s] W fun e w' => e = .returned (.bool (nameOk s)) ∧ w' = W := by
  by_cases h1 : 1 ≤ s.size
  · by_cases h2 : s.size ≤ 12
    · have q1 : decide ((s.size : Int) < 1) = false := by simp; omega
      have q2 : decide ((12 : Int) < (s.size : Int)) = false := by simp; omega
      have HE : Hid (nameOk s = s.data.toList.all smallB) := (by show _ = _; simp [nameOk, h1, h2])
      have hsz : Hid (s.data.toList.length = s.size) := (by show _ = _; simp)
      go_enter Tryz.func47, Tryz.ntmps47
      go_wp2
      go_loop [14] (fun x => ∃ i : Nat, i ≤ s.size ∧ x = .int .i64 i ∧ Hid (∀ j (h : j < s.data.toList.length), j < i → smallB s.data.toList[j] = true)) (fun x => s.size - (intOf x).toNat)
      case atStart => exact ⟨0, Nat.zero_le _, rfl, fun j _ h => absurd h (Nat.not_lt_zero _)⟩
      case round =>
        obtain ⟨i, hi, rfl, HA⟩ := hrel
        by_cases hlt : i < s.size
        · have hlt' : i < s.data.toList.length := by rw [hsz.out]; exact hlt
          have eb : s[i] = s.data.toList[i] := rfl
          go_wp2_with fail
          refine (isSmall_any s[i] W).mono ?_
          rintro e w1 ⟨rfl, rfl⟩
          cases hb : smallB s.data.toList[i] with
          | true =>
            have hb' : decide (97 ≤ s[i].toNat ∧ s[i].toNat ≤ 122) = true := hb
            rw [hb']
            have HN : Hid (∀ j (h : j < s.data.toList.length), j < i + 1 → smallB s.data.toList[j] = true) := fun j h hj => by
              by_cases e : j = i
              · subst e; exact hb
              · exact HA.out j h (by omega)
            clear hb hb' eb
            go_wp2
            go_round
            case rel => exact ⟨i + 1, by omega, by go_num, HN⟩
            case measure => simp [intOf]; omega
          | false =>
            have hb' : decide (97 ≤ s[i].toNat ∧ s[i].toNat ≤ 122) = false := hb
            rw [hb']
            have HT : Hid (nameOk s = false) := (by
              show _ = _
              rw [HE.out, List.all_eq_false]
              exact ⟨_, List.getElem_mem hlt', by rw [hb]; simp⟩)
            clear hb hb' eb
            go_wp2
            go_ret
            exact ⟨by rw [HT.out]; rfl, rfl⟩
        · obtain rfl : i = s.size := by omega
          have HT : Hid (nameOk s = true) := (by
            show _ = _
            rw [HE.out, List.all_eq_true]
            intro x hx
            obtain ⟨j, hj, rfl⟩ := List.getElem_of_mem hx
            exact HA.out j hj (by rw [← hsz.out]; exact hj))
          go_wp2
          go_ret
          exact ⟨by rw [HT.out]; rfl, rfl⟩
    · have q1 : decide ((s.size : Int) < 1) = false := by simp; omega
      have q2 : decide ((12 : Int) < (s.size : Int)) = true := by simp; omega
      have HE : Hid (nameOk s = false) := (by show _ = _; simp [nameOk, h2])
      go_enter Tryz.func47, Tryz.ntmps47
      go_wp2
      go_ret
      exact ⟨by rw [HE.out]; rfl, rfl⟩
  · have q1 : decide ((s.size : Int) < 1) = true := by simp; omega
    have HE : Hid (nameOk s = false) := (by show _ = _; simp [nameOk, h1])
    go_enter Tryz.func47, Tryz.ntmps47
    go_wp2
    go_ret
    exact ⟨by rw [HE.out]; rfl, rfl⟩
set_option maxRecDepth 100000 in
set_option maxHeartbeats 1600000 in
theorem nmEq_any (nm s : ByteArray) (g : Nat) (y0 y2 y3 : Int) (a : Option Addr) (n c : Nat) (x0 x2 x3 x4 : Value) (W : World) (hg : W.heap[g]? = some (.cells #[x0, .string nm, x2, x3, x4] 24 (0, 0))) :
    Calls Tryz.prog 46 #[.agg #[.int .i64 y0, .string s, .int .i64 y2, .int .i64 y3, .slice a n c], .pointer (some ⟨g, 0, none⟩)] W fun e w' => e = .returned (.bool (s.toList == nm.toList)) ∧ Below W.heap.size W w' := by
  have HB : Hid (Below W.heap.size W (W.alloc (.cells #[.int .i64 y0, .string s, .int .i64 y2, .int .i64 y3, .slice a n c] 24))) := (Below.refl _ _).alloc (Nat.le_refl _) _
  obtain ⟨⟨p0, p1, p2, p3, p4⟩, _⟩ := row_five (blk_alloc (o' := .cells #[.int .i64 y0, .string s, .int .i64 y2, .int .i64 y3, .slice a n c] 24) hg)
  clear hg
  go_enter Tryz.func46, Tryz.ntmps46
  go_wp2
  go_ret
  exact ⟨rfl, HB.out⟩
set_option maxRecDepth 100000 in
set_option maxHeartbeats 1600000 in
/-- slices.IndexFunc over nodes: the first with that name. -/
theorem idxM_any (nm : ByteArray) (g : Nat) (x0 x2 x3 x4 : Value) (P : Nat → Prop) (a : Option Addr) (c : Nat) (ts : List Tr) (hn : ts.length ≤ 1048576) (W : World) (hg : W.heap[g]? = some (.cells #[x0, .string nm, x2, x3, x4] 24 (0, 0))) (hl : LiesN W P a ts) :
    Calls Tryz.prog (66) #[.slice a ts.length c, .func (.func 46) #[] #[.pointer (some ⟨g, 0, none⟩)]] W fun e w' => (∃ r, e = .returned (.int .i64 r) ∧ Idx (fun t => t.nm.toList == nm.toList) ts r) ∧ Below W.heap.size W w' := by
  have HL : Hid (LiesN W P a ts) := hl
  have HG : Hid (W.heap[g]? = some (.cells #[x0, .string nm, x2, x3, x4] 24 (0, 0))) := hg
  clear hl hg
  go_enter Tryz.func66, Tryz.ntmps66
  go_wp2
  go_loopw [8] (fun x wr => ∃ i : Nat, i ≤ ts.length ∧ x = .int .i64 i ∧ Hid (∀ j (h : j < ts.length), j < i → (ts[j].nm.toList == nm.toList) = false) ∧ Below W.heap.size W wr) (fun x _ => ts.length - (intOf x).toNat)
  case atStart => exact ⟨0, Nat.zero_le _, rfl, fun j _ h => absurd h (Nat.not_lt_zero _), Below.refl _ _⟩
  case round =>
    obtain ⟨i, hi, rfl, HA, hb⟩ := hrel
    have HB : Hid _ := hb
    by_cases hlt : i < ts.length
    · obtain ⟨b, o, a1, c1, rfl, d0, d1, d2, d3, d4, hl1⟩ := (HL.out.keep hb).at_ i hlt
      clear hl1
      obtain ⟨⟨p0, p1, p2, p3, p4⟩, _⟩ := row_five (blk_keep hb HG.out)
      have HGr : Hid (wr.heap[g]? = some (.cells #[x0, .string nm, x2, x3, x4] 24 (0, 0))) := blk_keep hb HG.out
      clear p0 p1 p2 p3 p4 hb
      go_wp2_with fail
      refine (nmEq_any nm ts[i].nm g _ _ _ a1 _ c1 x0 x2 x3 x4 wr HGr.out).mono ?_
      rintro e w1 ⟨rfl, hb1⟩
      have HB1 : Hid (Below W.heap.size W w1) := HB.out.trans (hb1.mono HB.out.size)
      clear hb1
      cases hq : (ts[i].nm.toList == nm.toList) with
      | true =>
        have HQ : Hid _ := hq
        clear hq
        go_wp2
        go_ret
        exact ⟨⟨(i : Int), rfl, .inr ⟨i, hlt, rfl, HQ.out, fun j h => HA.out j (by omega) h⟩⟩, HB1.out⟩
      | false =>
        have HN : Hid (∀ j (h : j < ts.length), j < i + 1 → (ts[j].nm.toList == nm.toList) = false) := fun j h hj => by
          by_cases e : j = i
          · subst e; exact hq
          · exact HA.out j h (by omega)
        clear hq
        go_wp2
        go_roundw
        case rel => exact ⟨i + 1, by omega, by go_num, HN, HB1⟩
        case measure => simp [intOf]; omega
    · obtain rfl : i = ts.length := by omega
      go_wp2
      go_ret
      exact ⟨⟨-1, rfl, .inl ⟨rfl, fun j h => HA.out j h h⟩⟩, hb⟩
end Go.Proofs.YtmfijliladancaaGreatDoor

namespace Go.Proofs.YtmfijliladancaaGreatDoor
open Go.RowKit
set_option maxRecDepth 100000 in
set_option maxHeartbeats 1600000 in
theorem containsM_any (nm : ByteArray) (g : Nat) (x0 x2 x3 x4 : Value) (P : Nat → Prop) (a : Option Addr) (k c : Nat) (ts : List Tr) (hn : ts.length ≤ 1048576) (hk : k = ts.length) (W : World) (hg : W.heap[g]? = some (.cells #[x0, .string nm, x2, x3, x4] 24 (0, 0))) (hl : LiesN W P a ts) :
    Calls Tryz.prog (48) #[.slice a k c, .func (.func 46) #[] #[.pointer (some ⟨g, 0, none⟩)]] W fun e w' => e = .returned (.bool (ts.any fun t => t.nm.toList == nm.toList)) ∧ Below W.heap.size W w' := by
  subst hk
  have HC : Hid _ := idxM_any nm g x0 x2 x3 x4 P a c ts hn W hg hl
  clear hg hl
  go_enter Tryz.func48, Tryz.ntmps48
  go_wp2_with fail
  refine Calls.mono HC.out ?_
  rintro e w1 ⟨⟨r, rfl, hr⟩, hb⟩
  have HR : Hid _ := hr.any
  have HB : Hid _ := hb
  clear hr hb
  go_wp2
  go_ret
  exact ⟨by rw [← HR.out]; rfl, HB.out⟩
/-- The names of nodes, those ahead of them known. -/
def nmsL (ahead : List Tr) : List Tr → Bool
  | [] => true
  | t :: ts => nameOk t.nm && !(ahead.any fun x => x.nm.toList == t.nm.toList) && nmsL (ahead ++ [t]) ts
theorem nmsL_step (ts : List Tr) (i : Nat) (h : i < ts.length) : nmsL (ts.take i) (ts.drop i) = (nameOk ts[i].nm && !((ts.take i).any fun x => x.nm.toList == ts[i].nm.toList) && nmsL (ts.take (i + 1)) (ts.drop (i + 1))) := by
  rw [List.drop_eq_getElem_cons h, nmsL, List.take_succ_eq_append_getElem h]
def stM (_ : Unit) (_ : List Tr) (t : Tr) : Bool × Unit := (nmsL [] t.sub, ())
set_option maxRecDepth 100000 in
set_option maxHeartbeats 1600000 in
theorem nms1_any (t : Tr) (a : Option Addr) (c : Nat) (va : Option Addr) (vn vc : Nat) (P : Nat → Prop) (W : World) (hs : t.Sm) (hcap : t.sub.length ≤ c) (hl : LiesN W P a t.sub) :
    Calls Tryz.prog 45 #[nodeV t a c, .slice va vn vc] W fun e w' => e = .returned (.bool (nmsL [] t.sub)) ∧ Below W.heap.size W w' := by
  have hsl := hs.len
  have HL : Hid (LiesN W P a t.sub) := hl
  have HB0 : Hid (Below W.heap.size W (W.alloc (.cells #[.int .i64 t.id, .string t.nm, .int .i64 t.rep, .int .i64 t.kind, .slice a t.sub.length c] 24))) := (Below.refl _ _).alloc (Nat.le_refl _) _
  have HX0 : Hid ((W.alloc (.cells #[.int .i64 t.id, .string t.nm, .int .i64 t.rep, .int .i64 t.kind, .slice a t.sub.length c] 24)).heap[W.heap.size]? = some (.cells #[.int .i64 t.id, .string t.nm, .int .i64 t.rep, .int .i64 t.kind, .slice a t.sub.length c] 24 (0, 0))) := heap_alloc_new W _
  clear hl hs
  unfold nodeV
  go_enter Tryz.func45, Tryz.ntmps45
  go_wp2
  go_loopw [11] (fun x wr => ∃ i : Nat, i ≤ t.sub.length ∧ x = .int .i64 i ∧ Hid (nmsL [] t.sub = nmsL (t.sub.take i) (t.sub.drop i)) ∧ Hid (Below W.heap.size W wr) ∧ Hid (wr.heap[W.heap.size]? = some (.cells #[.int .i64 t.id, .string t.nm, .int .i64 t.rep, .int .i64 t.kind, .slice a t.sub.length c] 24 (0, 0)))) (fun x _ => t.sub.length - (intOf x).toNat)
  case atStart => exact ⟨0, Nat.zero_le _, rfl, rfl, HB0, HX0⟩
  case round =>
    obtain ⟨i, hi, rfl, HA, HB, HX⟩ := hrel
    by_cases hlt : i < t.sub.length
    · obtain ⟨b, o, a1, c1, rfl, d0, d1, d2, d3, d4, hl1⟩ := (HL.out.keep HB.out).at_ i hlt
      clear hl1
      obtain ⟨⟨p0, p1, p2, p3, p4⟩, _⟩ := row_five (blk_alloc (o' := .cells #[.int .i64 t.sub[i].id, .string t.sub[i].nm, .int .i64 t.sub[i].rep, .int .i64 t.sub[i].kind, .slice a1 t.sub[i].sub.length c1] 24) HX.out)
      have HS := nmsL_step t.sub i hlt
      obtain ⟨bn, hbn⟩ : ∃ bn, nameOk t.sub[i].nm = bn := ⟨_, rfl⟩
      obtain ⟨ba, hba⟩ : ∃ ba, ((t.sub.take i).any fun x => x.nm.toList == t.sub[i].nm.toList) = ba := ⟨_, rfl⟩
      rw [hbn, hba] at HS
      have HS : Hid _ := HS
      have HBn : Hid _ := hbn
      have HBa : Hid _ := hba
      clear hbn hba
      have HG : Hid ((wr.alloc (.cells #[.int .i64 t.sub[i].id, .string t.sub[i].nm, .int .i64 t.sub[i].rep, .int .i64 t.sub[i].kind, .slice a1 t.sub[i].sub.length c1] 24)).heap[wr.heap.size]? = some (.cells #[.int .i64 t.sub[i].id, .string t.sub[i].nm, .int .i64 t.sub[i].rep, .int .i64 t.sub[i].kind, .slice a1 t.sub[i].sub.length c1] 24 (0, 0))) := heap_alloc_new wr _
      have hb2 : Below wr.heap.size wr (wr.alloc (.cells #[.int .i64 t.sub[i].id, .string t.sub[i].nm, .int .i64 t.sub[i].rep, .int .i64 t.sub[i].kind, .slice a1 t.sub[i].sub.length c1] 24)) := (Below.refl _ _).alloc (Nat.le_refl _) _
      have HB2 : Hid _ := hb2
      have HC : Hid _ := containsM_any t.sub[i].nm wr.heap.size _ _ _ _ P (some ⟨b, o, none⟩) i c (t.sub.take i) (by simp; omega) (by simp; omega) _ HG.out (((HL.out.keep HB.out).keep hb2).take i)
      clear hb2
      go_wp2_with fail
      refine (isName_any _ _).mono ?_
      rintro e w1 ⟨rfl, rfl⟩
      rw [HBn.out]
      cases bn with
      | false =>
        go_wp2
        go_ret
        exact ⟨by rw [HA.out, HS.out]; simp, HB.out.trans (HB2.out.mono HB.out.size)⟩
      | true =>
        go_wp2_with fail
        refine Calls.mono HC.out ?_
        rw [HBa.out]
        rintro e w1 ⟨rfl, hb3⟩
        have HB3 : Hid (Below W.heap.size W w1) := (HB.out.trans (HB2.out.mono HB.out.size)).trans (hb3.mono (by have := HB.out.size; simp; omega))
        have HX3 : Hid (w1.heap[W.heap.size]? = some (.cells #[.int .i64 t.id, .string t.nm, .int .i64 t.rep, .int .i64 t.kind, .slice (some ⟨b, o, none⟩) t.sub.length c] 24 (0, 0))) := blk_keep hb3 (blk_keep HB2.out HX.out)
        clear hb3
        cases ba with
        | true =>
          go_wp2
          go_ret
          exact ⟨by rw [HA.out, HS.out]; simp, HB3.out⟩
        | false =>
          have HN : Hid (nmsL [] t.sub = nmsL (t.sub.take (i + 1)) (t.sub.drop (i + 1))) := (by show _ = _; rw [HA.out, HS.out]; simp)
          go_wp2
          go_roundw
          case rel => exact ⟨i + 1, by omega, by go_num, HN, HB3, HX3⟩
          case measure => simp [intOf]; omega
    · obtain rfl : i = t.sub.length := by omega
      go_wp2
      go_ret
      exact ⟨by rw [HA.out, List.drop_length, nmsL]; rfl, HB.out⟩
def nmsT (t : Tr) : Bool := (wkT stM () [] t).1
set_option maxRecDepth 100000 in
set_option maxHeartbeats 1600000 in
theorem names_any (t : Tr) (n : Nat) (hd : t.Dp n) (hn : n ≤ 1100000) (hs : t.Sm) (a : Option Addr) (c : Nat) (P : Nat → Prop) (W : World) (hl : LiesN W P a t.sub) (hcap : t.sub.length ≤ c) :
    Calls Tryz.prog 28 #[nodeV t a c] W fun e w' => e = .returned (.bool (nmsT t)) ∧ Below W.heap.size W w' := by
  have hb : Below W.heap.size W (W.alloc (.cells #[.int .i64 t.id, .string t.nm, .int .i64 t.rep, .int .i64 t.kind, .slice a t.sub.length c] 24)) := (Below.refl _ _).alloc (Nat.le_refl _) _
  have HC : Hid _ := wkM_any stM (fun _ _ => True) (fun _ _ => True) (fun _ _ => True) (fun _ => 0) t.cnt W.heap.size (W.heap.size + 1) (by omega) (fun _ _ _ _ _ _ _ => trivial)
    (fun _ _ _ _ _ => trivial) (fun _ _ _ => Nat.zero_le _)
    (fun s path t a c v W' _ _ h1 h2 h3 hcap h4 h5 => by
      obtain ⟨va, vc, rfl⟩ := h2.shape
      exact (nms1_any t a c va path.length vc _ W' h4 hcap h3).mono fun e w' h => ⟨h.1, fun _ => trivial, fun _ => trivial, VFr.of_below h.2 (by omega)⟩)
    n t hd hs () [] a c (.slice none 0 0) (W.alloc (.cells #[.int .i64 t.id, .string t.nm, .int .i64 t.rep, .int .i64 t.kind, .slice a t.sub.length c] 24)) trivial (by simp) (by simp; omega) trivial (PathR.nil _ _ _) (hl.stay (fun b _ h => h) (fun b _ h => hb.block b h)) hcap (by simp)
  have HB : Hid _ := hb
  clear hl hd hs hb
  go_enter Tryz.func28, Tryz.ntmps28
  go_wp2_with fail
  refine Calls.mono HC.out ?_
  rintro e w1 ⟨rfl, _, _, hf, _⟩
  have HF : Hid _ := hf.below
  clear hf
  go_wp2
  go_ret
  exact ⟨rfl, HB.out.trans HF.out⟩
end Go.Proofs.YtmfijliladancaaGreatDoor
