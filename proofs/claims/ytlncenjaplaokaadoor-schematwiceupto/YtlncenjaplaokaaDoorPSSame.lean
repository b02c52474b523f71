/-
  The reference's SameNode of one schema in two places.
-/
import Derived.Test.YtlncenjaplaokaaDoorPSRead
namespace Go.Proofs.YtlncenjaplaokaaDoor
open Go.RowKit
def SnOK (t : Tr) : Prop := ∀ (P P' : Nat → Prop) (a : Option Addr) (c : Nat) (a' : Option Addr) (c' : Nat) (W : World), LiesN W P a t.sub → LiesN W P' a' t.sub → t.sub.length ≤ c → t.sub.length ≤ c' →
  Calls Tryd.prog 9 #[nodeV t a c, nodeV t a' c'] W fun e w' => e = .returned (.bool true) ∧ Below W.heap.size W w'
set_option maxRecDepth 100000 in
set_option maxHeartbeats 6400000 in
theorem sn_of (t : Tr) (hs : t.sub.length ≤ 1048576) (hts : ∀ x ∈ t.sub, SnOK x) : SnOK t := fun P P' a c a' c' W hl hl' hc hc' => by
  obtain ⟨w0, HW0, HX, HY, HB⟩ := two_boxesS W #[.int .i64 t.id, .string t.nm, .int .i64 t.rep, .int .i64 t.kind, .slice a t.sub.length c] #[.int .i64 t.id, .string t.nm, .int .i64 t.rep, .int .i64 t.kind, .slice a' t.sub.length c'] 24 24
  have HL : Hid (LiesN w0 P a t.sub) := hl.keep HB.out
  have HL' : Hid (LiesN w0 P' a' t.sub) := hl'.keep HB.out
  have HT : Hid (∀ x ∈ t.sub, SnOK x) := hts
  obtain ⟨⟨p0, p1, p2, p3, p4⟩, _⟩ := row_five HX.out
  obtain ⟨⟨q0, q1, q2, q3, q4⟩, _⟩ := row_five HY.out
  clear hl hl' hts
  unfold nodeV
  go_enter Tryd.func9, Tryd.ntmps9
  go_wp2_with fail
  rw [HW0.out]
  go_wp2_with fail
  clear p0 p1 p2 p3 p4 q0 q1 q2 q3 q4
  go_loopw [5] (fun x wr => ∃ i : Nat, i ≤ t.sub.length ∧ x = .int .i64 i ∧ Hid (Below w0.heap.size w0 wr)) (fun x _ => t.sub.length - (intOf x).toNat)
  case atStart => exact ⟨0, Nat.zero_le _, rfl, Below.refl _ _⟩
  case round =>
    obtain ⟨i, hik, rfl, HBr⟩ := hrel
    have HXr : Hid (wr.heap[W.heap.size]? = some (.cells #[.int .i64 t.id, .string t.nm, .int .i64 t.rep, .int .i64 t.kind, .slice a t.sub.length c] 24 (0, 0))) := blk_keep HBr.out HX.out
    have HYr : Hid (wr.heap[W.heap.size + 1]? = some (.cells #[.int .i64 t.id, .string t.nm, .int .i64 t.rep, .int .i64 t.kind, .slice a' t.sub.length c'] 24 (0, 0))) := blk_keep HBr.out HY.out
    obtain ⟨⟨p0, p1, p2, p3, p4⟩, _⟩ := row_five HXr.out
    obtain ⟨⟨q0, q1, q2, q3, q4⟩, _⟩ := row_five HYr.out
    by_cases hlt : i < t.sub.length
    · obtain ⟨b, o, a1, c1, rfl, d0, d1, d2, d3, d4, hl1, hc1⟩ := (HL.out.keep HBr.out).at2 i hlt
      obtain ⟨b', o', a2, c2, rfl, e0, e1, e2, e3, e4, hl2, hc2⟩ := (HL'.out.keep HBr.out).at2 i hlt
      have HC : Hid _ := HT.out t.sub[i] (List.getElem_mem hlt) P P' a1 c1 a2 c2 wr.drew (hl1.stay (fun _ h _ => h) (fun _ _ _ => rfl)) (hl2.stay (fun _ h _ => h) (fun _ _ _ => rfl)) hc1 hc2
      clear hl1 hl2
      obtain ⟨tid, htid⟩ := hid_name t.sub[i].id
      have b10 : Below wr.heap.size wr wr := Below.refl _ _
      have HN : Hid (∀ X, Below wr.heap.size wr X → (X.cell? ⟨W.heap.size, 4, none⟩ = some (.slice (some ⟨b, o, none⟩) t.sub.length c) ∧ X.cell? ⟨W.heap.size + 1, 4, none⟩ = some (.slice (some ⟨b', o', none⟩) t.sub.length c')) ∧ (X.cell? ⟨b, o + i * 5, none⟩ = some (.int .i64 t.sub[i].id) ∧ X.cell? ⟨b, o + i * 5 + 1, none⟩ = some (.string t.sub[i].nm) ∧ X.cell? ⟨b, o + i * 5 + 2, none⟩ = some (.int .i64 t.sub[i].rep) ∧ X.cell? ⟨b, o + i * 5 + 3, none⟩ = some (.int .i64 t.sub[i].kind) ∧ X.cell? ⟨b, o + i * 5 + 4, none⟩ = some (.slice a1 t.sub[i].sub.length c1)) ∧ (X.cell? ⟨b', o' + i * 5, none⟩ = some (.int .i64 t.sub[i].id) ∧ X.cell? ⟨b', o' + i * 5 + 1, none⟩ = some (.string t.sub[i].nm) ∧ X.cell? ⟨b', o' + i * 5 + 2, none⟩ = some (.int .i64 t.sub[i].rep) ∧ X.cell? ⟨b', o' + i * 5 + 3, none⟩ = some (.int .i64 t.sub[i].kind) ∧ X.cell? ⟨b', o' + i * 5 + 4, none⟩ = some (.slice a2 t.sub[i].sub.length c2)) ∧ Below wr.heap.size wr X) := fun X hX => (by
        have k : ∀ (ad : Addr) (v : Value), wr.cell? ad = some v → X.cell? ad = some v := fun ad v h => (hX.cell (World.block_lt_of_cell? wr _ h)).trans h
        exact ⟨⟨k _ _ p4, k _ _ q4⟩, ⟨k _ _ d0, k _ _ d1, k _ _ d2, k _ _ d3, k _ _ d4⟩, ⟨k _ _ e0, k _ _ e1, k _ _ e2, k _ _ e3, k _ _ e4⟩, hX⟩)
      go_upto_region 6 with fail
      go_region_held3 (fun X => (X.cell? ⟨W.heap.size, 4, none⟩ = some (.slice (some ⟨b, o, none⟩) t.sub.length c) ∧ X.cell? ⟨W.heap.size + 1, 4, none⟩ = some (.slice (some ⟨b', o', none⟩) t.sub.length c')) ∧ (X.cell? ⟨b, o + i * 5, none⟩ = some (.int .i64 t.sub[i].id) ∧ X.cell? ⟨b, o + i * 5 + 1, none⟩ = some (.string t.sub[i].nm) ∧ X.cell? ⟨b, o + i * 5 + 2, none⟩ = some (.int .i64 t.sub[i].rep) ∧ X.cell? ⟨b, o + i * 5 + 3, none⟩ = some (.int .i64 t.sub[i].kind) ∧ X.cell? ⟨b, o + i * 5 + 4, none⟩ = some (.slice a1 t.sub[i].sub.length c1)) ∧ (X.cell? ⟨b', o' + i * 5, none⟩ = some (.int .i64 t.sub[i].id) ∧ X.cell? ⟨b', o' + i * 5 + 1, none⟩ = some (.string t.sub[i].nm) ∧ X.cell? ⟨b', o' + i * 5 + 2, none⟩ = some (.int .i64 t.sub[i].rep) ∧ X.cell? ⟨b', o' + i * 5 + 3, none⟩ = some (.int .i64 t.sub[i].kind) ∧ X.cell? ⟨b', o' + i * 5 + 4, none⟩ = some (.slice a2 t.sub[i].sub.length c2)) ∧ Below wr.heap.size wr X) (first | (with_reducible refine HN.out _ ?_; repeat' (first | with_reducible assumption | with_reducible exact b10.drew | with_reducible exact b10))) (first | (go_at_call 9; refine Calls.mono HC.out ?_; rintro e w1 ⟨rfl, hb1⟩; have hbb : Below wr.heap.size wr w1 := (Below.refl _ _).drew.trans hb1))
      all_goals
        have HBn : Hid (Below w0.heap.size w0 w1) := HBr.out.trans (hbb.mono HBr.out.size)
        clear hbb
        go_wp2
        go_roundw
        case rel => exact ⟨i + 1, by omega, by go_num, HBn⟩
        case measure => simp [intOf]; omega
    · obtain rfl : i = t.sub.length := by omega
      go_wp2
      go_ret
      exact ⟨rfl, HB.out.trans (HBr.out.mono HB.out.size)⟩
theorem sn_ok : ∀ (n : Nat) (t : Tr), SizeOf.sizeOf t < n → t.Sm → SnOK t
  | 0, t, h => absurd h (Nat.not_lt_zero _)
  | n + 1, t, hsz => fun hsm => sn_of t hsm.len fun x hx => by
      obtain ⟨j, hj, rfl⟩ := List.getElem_of_mem hx
      exact sn_ok n _ (by have := t.sub_size j hj; omega) (hsm.at_ j hj)
end Go.Proofs.YtlncenjaplaokaaDoor
