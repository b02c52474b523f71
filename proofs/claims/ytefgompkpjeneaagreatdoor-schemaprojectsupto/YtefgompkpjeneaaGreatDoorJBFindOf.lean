/-
  The reference's FindOf and HasInt: exact.
  The reference's FindOf, told where what it answers lies.
-/
import Derived.Test.YtefgompkpjeneaaGreatDoorJBSFlI
import Derived.Test.YtefgompkpjeneaaGreatDoorJAppAny
import Derived.Test.YtefgompkpjeneaaGreatDoorJBInB
namespace Go.Proofs.YtefgompkpjeneaaGreatDoor
open Go.RowKit
set_option maxRecDepth 100000 in
set_option maxHeartbeats 1600000 in
theorem hasInt_any (a : Option Addr) (c : Nat) (xs : List Int) (n : Int) (W : World) (hl : Lies W a (i64s xs)) (hm : xs.length ≤ maxLen) :
    Calls Tryz.prog 30 #[.slice a xs.length c, .int .i64 n] W fun e w' => e = .returned (.bool (decide (n ∈ xs))) ∧ w' = W := by
  have HL : Hid (Lies W a (i64s xs)) := hl
  have hm2 : xs.length ≤ 9223372036854775807 := hm
  clear hl hm
  go_enter Tryz.func30, Tryz.ntmps30
  go_wp2_with fail
  go_loop [5] (fun x => ∃ i : Nat, i ≤ xs.length ∧ x = .int .i64 i ∧ Hid (∀ j (h : j < xs.length), j < i → xs[j] ≠ n)) (fun x => xs.length - (intOf x).toNat)
  case atStart => exact ⟨0, Nat.zero_le _, rfl, fun j _ h => absurd h (Nat.not_lt_zero _)⟩
  case round =>
    obtain ⟨i, hik, rfl, HA⟩ := hrel
    by_cases hlt : i < xs.length
    · obtain ⟨b, o, rfl, hc⟩ := HL.out i (by rw [i64s_len]; exact hlt)
      have hc2 : W.cell? ⟨b, o + i, none⟩ = some (.int .i64 xs[i]) := by simpa [i64s] using hc
      clear hc
      obtain ⟨x, HX⟩ := hid_name xs[i]
      rw [HX.out] at hc2
      by_cases he : x = n
      · have q1 : (x == n) = true := by simp [he]
        have HE : Hid (decide (n ∈ xs) = true) := (by
          show _ = _
          rw [decide_eq_true_iff, ← he, ← HX.out]
          exact List.getElem_mem hlt)
        clear he
        go_wp2
        go_ret
        exact ⟨by rw [HE.out]; rfl, rfl⟩
      · have q1 : (x == n) = false := by simp [he]
        have HN : Hid (∀ j (h : j < xs.length), j < i + 1 → xs[j] ≠ n) := fun j h hj => (by
          by_cases e : j = i
          · subst e; rw [HX.out]; exact he
          · exact HA.out j h (by omega))
        clear he
        go_wp2
        go_round
        case rel => exact ⟨i + 1, by omega, by go_num, HN⟩
        case measure => simp [intOf]; omega
    · obtain rfl : i = xs.length := by omega
      have HE : Hid (decide (n ∈ xs) = false) := (by
        show _ = _
        rw [decide_eq_false_iff_not]
        intro h
        obtain ⟨j, hj, e⟩ := List.getElem_of_mem h
        exact HA.out j hj hj e)
      go_wp2
      go_ret
      exact ⟨by rw [HE.out]; rfl, rfl⟩
/-- What FindOf answers. -/
def FoundR (t : Tr) (id : Int) (e : Ending) : Prop :=
  (∃ (i : Nat) (h : i < (fl t).length) (a' : Option Addr) (c' : Nat), (fl t)[i].t.id = id ∧ (∀ j (h' : j < (fl t).length), j < i → (fl t)[j].t.id ≠ id) ∧ e = .returned (.tuple #[nodeV (fl t)[i].t a' c', .bool true])) ∨
  ((∀ p ∈ fl t, p.t.id ≠ id) ∧ e = .returned (.tuple #[.agg #[.int .i64 0, .string ⟨#[]⟩, .int .i64 0, .int .i64 0, .slice none 0 0], .bool false]))
set_option maxRecDepth 100000 in
set_option maxHeartbeats 6400000 in
theorem findOf_any (t : Tr) (hsm : t.Sm) (P : Nat → Prop) (a : Option Addr) (c : Nat) (id : Int) (W : World) (hl : LiesN W P a t.sub) :
    Calls Tryz.prog 16 #[nodeV t a c, .int .i64 id] W fun e w' => FoundR t id e ∧ Below W.heap.size W w' := by
  obtain ⟨w0, HW0, HX, HY, HB⟩ := two_boxesS W #[.int .i64 t.id, .string t.nm, .int .i64 t.rep, .int .i64 t.kind, .slice a t.sub.length c] #[.int .i64 0, .string ⟨#[]⟩, .int .i64 0, .int .i64 0, .slice none 0 0] 24 24
  have HFl : Hid _ := flatF_any t hsm P a c w0 (hl.keep HB.out)
  have HLn : Hid ((fl t).length ≤ 2001) := flT_len t [] 1 (-1) (by simp)
  obtain ⟨⟨p0, p1, p2, p3, p4⟩, _⟩ := row_five HX.out
  clear hl hsm
  unfold nodeV
  go_enter Tryz.func16, Tryz.ntmps16
  go_wp2_with fail
  rw [HW0.out]
  refine Calls.mono HFl.out ?_
  rintro e w1 ⟨⟨ps, la, lc, rfl, hco, hrow⟩, hb1⟩
  have HB1 : Hid (Below W.heap.size W w1) := HB.out.trans (hb1.mono HB.out.size)
  have HY1 : Hid (w1.heap[W.heap.size + 1]? = some (.cells #[.int .i64 0, .string ⟨#[]⟩, .int .i64 0, .int .i64 0, .slice none 0 0] 24 (0, 0))) := blk_keep hb1 HY.out
  have hlen : ps.length = (fl t).length := by rw [← hco, List.length_map]
  have hpl : ps.length ≤ 2001 := by rw [hlen]; exact HLn.out
  have hp0 : 0 < ps.length := by rw [hlen]; exact fl_pos t
  obtain ⟨g, rfl, _⟩ := pn_cell hrow 0 hp0
  have HF : Hid (FlI t ps g w1) := ⟨hco, fun X hX i hi k u hk hu => (by
    obtain ⟨g', hg', hc⟩ := pn_cell hrow i hi
    obtain rfl : g = g' := by injection hg' with h; injection h
    have h1 := hc k u hk hu
    exact (hX.cell (World.block_lt_of_cell? w1 _ h1)).trans h1)⟩
  clear hco hrow hb1 HFl p0 p1 p2 p3 p4 hlen
  obtain ⟨⟨z0, z1, z2, z3, z4⟩, f0, f1, f2, f3, f4⟩ := row_five HY1.out
  go_wp2_with fail
  go_loopw [7] (fun x wr => ∃ i : Nat, i ≤ ps.length ∧ x = .int .i64 i ∧ Hid (∀ j (h : j < (fl t).length), j < i → (fl t)[j].t.id ≠ id) ∧ w1 = wr) (fun x _ => ps.length - (intOf x).toNat)
  case atStart => exact ⟨0, Nat.zero_le _, rfl, fun j _ h => absurd h (Nat.not_lt_zero _), rfl⟩
  case round =>
    obtain ⟨i, hik, rfl, HA, rfl⟩ := hrel
    by_cases hlt : i < ps.length
    · have hfi : i < (fl t).length := by rw [← HF.out.len]; exact hlt
      have HAt : Hid ((fl t)[i].t = ps[i].t) := (by show _ = _; rw [HF.out.at_ i hlt]; rfl)
      have c0 := HF.out.cell w1 (Below.refl _ _) i hlt 0 _ (by omega) rfl
      have c1 := HF.out.cell w1 (Below.refl _ _) i hlt 1 _ (by omega) rfl
      have c2 := HF.out.cell w1 (Below.refl _ _) i hlt 2 _ (by omega) rfl
      have c3 := HF.out.cell w1 (Below.refl _ _) i hlt 3 _ (by omega) rfl
      have c4 := HF.out.cell w1 (Below.refl _ _) i hlt 4 _ (by omega) rfl
      rw [Nat.add_zero] at c0
      obtain ⟨xt, HXt⟩ := hid_name ps[i].t
      obtain ⟨xa, HXa⟩ := hid_name ps[i].a
      obtain ⟨xc, HXc⟩ := hid_name ps[i].c
      rw [HXt.out] at c0 c1 c2 c3 c4 HAt
      rw [HXa.out, HXc.out] at c4
      obtain ⟨xi, HXi⟩ := hid_name xt.id
      rw [HXi.out] at c0
      by_cases he : xi = id
      · have q1 : (xi == id) = true := by simp [he]
        have HR : Hid (FoundR t id (.returned (.tuple #[.agg #[.int .i64 xi, .string xt.nm, .int .i64 xt.rep, .int .i64 xt.kind, .slice xa xt.sub.length xc], .bool true]))) := .inl ⟨i, hfi, xa, xc, by rw [HAt.out, HXi.out, he], HA.out, by rw [HAt.out, ← HXi.out]⟩
        clear he
        go_wp2
        exact bodyPost_ret (v := .tuple #[.agg #[.int .i64 xi, .string xt.nm, .int .i64 xt.rep, .int .i64 xt.kind, .slice xa xt.sub.length xc], .bool true]) (results_cS Tryz.results16 _ _ (W.heap.size + 1) 24 #[.int .i64 xi, .string xt.nm, .int .i64 xt.rep, .int .i64 xt.kind, .slice xa xt.sub.length xc] (0, 0) _ (.bool true) rfl rfl (row_setC (row_setC (row_setC (row_setC (row_setC HY1.out))))) Tryz.underlying24 rfl (by kernel_rfl)) rfl ⟨HR.out, ((((HB1.out.setCell (by simp) _).setCell (by simp) _).setCell (by simp) _).setCell (by simp) _).setCell (by simp) _⟩
      · have q1 : (xi == id) = false := by simp [he]
        have HN : Hid (∀ j (h : j < (fl t).length), j < i + 1 → (fl t)[j].t.id ≠ id) := fun j h hj => (by
          by_cases e : j = i
          · subst e; rw [HAt.out, HXi.out]; exact he
          · exact HA.out j h (by omega))
        clear he
        go_wp2
        go_roundw
        case rel => exact ⟨i + 1, by omega, by go_num, HN, by first | rfl | trivial⟩
        case measure => simp [intOf]; omega
    · obtain rfl : i = ps.length := by omega
      have HR : Hid (FoundR t id (.returned (.tuple #[.agg #[.int .i64 0, .string ⟨#[]⟩, .int .i64 0, .int .i64 0, .slice none 0 0], .bool false]))) := .inr ⟨fun p hp => (by
        obtain ⟨j, hj, rfl⟩ := List.getElem_of_mem hp
        exact HA.out j hj (by rw [HF.out.len]; exact hj)), rfl⟩
      go_wp2
      exact bodyPost_ret (v := .tuple #[.agg #[.int .i64 0, .string ⟨#[]⟩, .int .i64 0, .int .i64 0, .slice none 0 0], .bool false]) (results_cS Tryz.results16 _ _ (W.heap.size + 1) 24 #[.int .i64 0, .string ⟨#[]⟩, .int .i64 0, .int .i64 0, .slice none 0 0] (0, 0) _ (.bool false) rfl rfl (row_setC (row_setC (row_setC (row_setC (row_setC HY1.out))))) Tryz.underlying24 rfl (by kernel_rfl)) rfl ⟨HR.out, ((((HB1.out.setCell (by simp) _).setCell (by simp) _).setCell (by simp) _).setCell (by simp) _).setCell (by simp) _⟩
end Go.Proofs.YtefgompkpjeneaaGreatDoor

namespace Go.Proofs.YtefgompkpjeneaaGreatDoor
open Go.RowKit
/-- What FindOf answers. -/
def FoundN (P : Nat → Prop) (t : Tr) (id : Int) (e : Ending) (w : World) : Prop :=
  (∃ (i : Nat) (h : i < (fl t).length) (a' : Option Addr) (c' : Nat), (fl t)[i].t.id = id ∧ (∀ j (h' : j < (fl t).length), j < i → (fl t)[j].t.id ≠ id) ∧ e = .returned (.tuple #[nodeV (fl t)[i].t a' c', .bool true]) ∧ LiesN w P a' (fl t)[i].t.sub ∧ (fl t)[i].t.sub.length ≤ c') ∨
  ((∀ p ∈ fl t, p.t.id ≠ id) ∧ e = .returned (.tuple #[.agg #[.int .i64 0, .string ⟨#[]⟩, .int .i64 0, .int .i64 0, .slice none 0 0], .bool false]))
set_option maxRecDepth 100000 in
set_option maxHeartbeats 6400000 in
theorem findOf_anyN (t : Tr) (hsm : t.Sm) (P : Nat → Prop) (a : Option Addr) (c : Nat) (id : Int) (W : World) (hl : LiesN W P a t.sub) (hcap : t.sub.length ≤ c) :
    Calls Tryz.prog 16 #[nodeV t a c, .int .i64 id] W fun e w' => FoundN P t id e w' ∧ Below W.heap.size W w' := by
  obtain ⟨w0, HW0, HX, HY, HB⟩ := two_boxesS W #[.int .i64 t.id, .string t.nm, .int .i64 t.rep, .int .i64 t.kind, .slice a t.sub.length c] #[.int .i64 0, .string ⟨#[]⟩, .int .i64 0, .int .i64 0, .slice none 0 0] 24 24
  have HFl : Hid _ := flatF_anyL t hsm (fun b => P b ∧ b < W.heap.size) a c w0 (hl.stay (fun _ hp h => ⟨hp, h⟩) (fun b _ h => HB.out.block b h)) hcap
  have HLn : Hid ((fl t).length ≤ 2001) := flT_len t [] 1 (-1) (by simp)
  obtain ⟨⟨p0, p1, p2, p3, p4⟩, _⟩ := row_five HX.out
  clear hl hsm
  unfold nodeV
  go_enter Tryz.func16, Tryz.ntmps16
  go_wp2_with fail
  rw [HW0.out]
  refine Calls.mono HFl.out ?_
  rintro e w1 ⟨⟨ps, la, lc, rfl, hco, hrow, hkp⟩, hb1⟩
  have HKp : Hid _ := hkp
  have HB1 : Hid (Below W.heap.size W w1) := HB.out.trans (hb1.mono HB.out.size)
  have HY1 : Hid (w1.heap[W.heap.size + 1]? = some (.cells #[.int .i64 0, .string ⟨#[]⟩, .int .i64 0, .int .i64 0, .slice none 0 0] 24 (0, 0))) := blk_keep hb1 HY.out
  have hlen : ps.length = (fl t).length := by rw [← hco, List.length_map]
  have hpl : ps.length ≤ 2001 := by rw [hlen]; exact HLn.out
  have hp0 : 0 < ps.length := by rw [hlen]; exact fl_pos t
  obtain ⟨g, rfl, _⟩ := pn_cell hrow 0 hp0
  have HF : Hid (FlI t ps g w1) := ⟨hco, fun X hX i hi k u hk hu => (by
    obtain ⟨g', hg', hc⟩ := pn_cell hrow i hi
    obtain rfl : g = g' := by injection hg' with h; injection h
    have h1 := hc k u hk hu
    exact (hX.cell (World.block_lt_of_cell? w1 _ h1)).trans h1)⟩
  clear hco hrow hb1 hkp HFl p0 p1 p2 p3 p4 hlen
  obtain ⟨⟨z0, z1, z2, z3, z4⟩, f0, f1, f2, f3, f4⟩ := row_five HY1.out
  go_wp2_with fail
  go_loopw [7] (fun x wr => ∃ i : Nat, i ≤ ps.length ∧ x = .int .i64 i ∧ Hid (∀ j (h : j < (fl t).length), j < i → (fl t)[j].t.id ≠ id) ∧ w1 = wr) (fun x _ => ps.length - (intOf x).toNat)
  case atStart => exact ⟨0, Nat.zero_le _, rfl, fun j _ h => absurd h (Nat.not_lt_zero _), rfl⟩
  case round =>
    obtain ⟨i, hik, rfl, HA, rfl⟩ := hrel
    by_cases hlt : i < ps.length
    · have hfi : i < (fl t).length := by rw [← HF.out.len]; exact hlt
      have HAt : Hid ((fl t)[i].t = ps[i].t) := (by show _ = _; rw [HF.out.at_ i hlt]; rfl)
      have c0 := HF.out.cell w1 (Below.refl _ _) i hlt 0 _ (by omega) rfl
      have c1 := HF.out.cell w1 (Below.refl _ _) i hlt 1 _ (by omega) rfl
      have c2 := HF.out.cell w1 (Below.refl _ _) i hlt 2 _ (by omega) rfl
      have c3 := HF.out.cell w1 (Below.refl _ _) i hlt 3 _ (by omega) rfl
      have c4 := HF.out.cell w1 (Below.refl _ _) i hlt 4 _ (by omega) rfl
      rw [Nat.add_zero] at c0
      obtain ⟨xt, HXt⟩ := hid_name ps[i].t
      obtain ⟨xa, HXa⟩ := hid_name ps[i].a
      obtain ⟨xc, HXc⟩ := hid_name ps[i].c
      rw [HXt.out] at c0 c1 c2 c3 c4 HAt
      rw [HXa.out, HXc.out] at c4
      obtain ⟨xi, HXi⟩ := hid_name xt.id
      rw [HXi.out] at c0
      by_cases he : xi = id
      · have q1 : (xi == id) = true := by simp [he]
        have HR : Hid (∀ w', Below W.heap.size W w' → FoundN P t id (.returned (.tuple #[.agg #[.int .i64 xi, .string xt.nm, .int .i64 xt.rep, .int .i64 xt.kind, .slice xa xt.sub.length xc], .bool true])) w') := fun w' hw' => .inl ⟨i, hfi, xa, xc, by rw [HAt.out, HXi.out, he], HA.out, by rw [HAt.out, ← HXi.out], by
            rw [HAt.out]
            have h := HKp.out ps[i] (List.getElem_mem hlt)
            rw [HXt.out, HXa.out, HXc.out] at h
            exact ⟨h.1.stay (fun _ hb _ => hb.1.1) (fun b hb _ => (hw'.block b hb.1.2).trans (HB1.out.block b hb.1.2).symm), h.2⟩⟩
        clear he
        go_wp2
        exact bodyPost_ret (v := .tuple #[.agg #[.int .i64 xi, .string xt.nm, .int .i64 xt.rep, .int .i64 xt.kind, .slice xa xt.sub.length xc], .bool true]) (results_cS Tryz.results16 _ _ (W.heap.size + 1) 24 #[.int .i64 xi, .string xt.nm, .int .i64 xt.rep, .int .i64 xt.kind, .slice xa xt.sub.length xc] (0, 0) _ (.bool true) rfl rfl (row_setC (row_setC (row_setC (row_setC (row_setC HY1.out))))) Tryz.underlying24 rfl (by kernel_rfl)) rfl (have hz := ((((HB1.out.setCell (by simp) _).setCell (by simp) _).setCell (by simp) _).setCell (by simp) _).setCell (by simp) _; ⟨HR.out _ hz, hz⟩)
      · have q1 : (xi == id) = false := by simp [he]
        have HN : Hid (∀ j (h : j < (fl t).length), j < i + 1 → (fl t)[j].t.id ≠ id) := fun j h hj => (by
          by_cases e : j = i
          · subst e; rw [HAt.out, HXi.out]; exact he
          · exact HA.out j h (by omega))
        clear he
        go_wp2
        go_roundw
        case rel => exact ⟨i + 1, by omega, by go_num, HN, by first | rfl | trivial⟩
        case measure => simp [intOf]; omega
    · obtain rfl : i = ps.length := by omega
      have HR : Hid (∀ w', Below W.heap.size W w' → FoundN P t id (.returned (.tuple #[.agg #[.int .i64 0, .string ⟨#[]⟩, .int .i64 0, .int .i64 0, .slice none 0 0], .bool false])) w') := fun _ _ => .inr ⟨fun p hp => (by
        obtain ⟨j, hj, rfl⟩ := List.getElem_of_mem hp
        exact HA.out j hj (by rw [HF.out.len]; exact hj)), rfl⟩
      go_wp2
      exact bodyPost_ret (v := .tuple #[.agg #[.int .i64 0, .string ⟨#[]⟩, .int .i64 0, .int .i64 0, .slice none 0 0], .bool false]) (results_cS Tryz.results16 _ _ (W.heap.size + 1) 24 #[.int .i64 0, .string ⟨#[]⟩, .int .i64 0, .int .i64 0, .slice none 0 0] (0, 0) _ (.bool false) rfl rfl (row_setC (row_setC (row_setC (row_setC (row_setC HY1.out))))) Tryz.underlying24 rfl (by kernel_rfl)) rfl (have hz := ((((HB1.out.setCell (by simp) _).setCell (by simp) _).setCell (by simp) _).setCell (by simp) _).setCell (by simp) _; ⟨HR.out _ hz, hz⟩)
/-- .. wherever it lies. -/
def FoundL (t : Tr) (id : Int) (e : Ending) (w : World) : Prop := FoundN (fun _ => True) t id e w
theorem findOf_anyL (t : Tr) (hsm : t.Sm) (P : Nat → Prop) (a : Option Addr) (c : Nat) (id : Int) (W : World) (hl : LiesN W P a t.sub) (hcap : t.sub.length ≤ c) :
    Calls Tryz.prog 16 #[nodeV t a c, .int .i64 id] W fun e w' => FoundL t id e w' ∧ Below W.heap.size W w' := findOf_anyN t hsm (fun _ => True) a c id W (hl.stay (fun _ _ _ => trivial) (fun _ _ _ => rfl)) hcap
end Go.Proofs.YtefgompkpjeneaaGreatDoor
