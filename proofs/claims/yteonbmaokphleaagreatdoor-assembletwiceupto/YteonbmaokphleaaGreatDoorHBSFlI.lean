/-
  The flat list of a schema in memory.
  The reference's UnderOf.
  The reference's FindOf and HasInt: exact.
  The reference's FindOf, told where what it answers lies.
  The reference's keep: a node with those in it that have some of the leaves.
  The reference's ProjectOf of a right schema: exact.
-/
import Derived.Test.YteonbmaokphleaaGreatDoorHBIds
import Derived.Deep.DeepCutAuto
import Derived.Deep.RegionHeld3
import Derived.Deep.RegionLaw
import Derived.Test.YteonbmaokphleaaGreatDoorHBInB
import Derived.Test.YteonbmaokphleaaGreatDoorHAppAny
import Derived.Test.YteonbmaokphleaaGreatDoorHBLfM
import Derived.Deep.RegionWith
namespace Go.Proofs.YteonbmaokphleaaGreatDoor
open Go.RowKit
structure FlI (t : Tr) (ps : List Pn) (g : Nat) (w1 : World) : Prop where
 co : ps.map Pn.core = fl t
 cell : ∀ X, Below w1.heap.size w1 X → ∀ i (h : i < ps.length) k u, k < 7 → (pnc ps[i])[k]? = some u → X.cell? ⟨g, i * 7 + k, none⟩ = some u
theorem FlI.len {t : Tr} {ps : List Pn} {g : Nat} {w1 : World} (h : FlI t ps g w1) : ps.length = (fl t).length := by rw [← h.co, List.length_map]
theorem FlI.at_ {t : Tr} {ps : List Pn} {g : Nat} {w1 : World} (h : FlI t ps g w1) (i : Nat) (hi : i < ps.length) : (fl t)[i]'(by rw [← h.len]; exact hi) = ps[i].core := by simp only [← h.co, List.getElem_map]
theorem FlI.tail {t : Tr} {ps : List Pn} {g : Nat} {w1 : World} (h : FlI t ps g w1) (i : Nat) (hi : i + 1 < ps.length) : ∃ hh : i < (fl t).tail.length, (fl t).tail[i] = ps[i + 1].core := by
 have h1 : i < (fl t).tail.length := by rw [List.length_tail, ← h.len]; omega
 exact ⟨h1, by rw [List.getElem_tail]; exact h.at_ (i + 1) hi⟩
theorem FlI.tl {t : Tr} {ps : List Pn} {g : Nat} {w1 : World} (h : FlI t ps g w1) (i : Nat) (h1 : 1 ≤ i) (hi : i < ps.length) : ∃ hh : i - 1 < (fl t).tail.length, (fl t).tail[i - 1] = ps[i].core := by
 obtain ⟨j, rfl⟩ : ∃ j, i = j + 1 := ⟨i - 1, by omega⟩
 exact h.tail j hi
theorem fl_pos (t : Tr) : 0 < (fl t).length := by
 unfold fl
 rw [flT_eq, if_neg (by simp)]
 obtain ⟨E, h⟩ := flL_ext t.sub ([] ++ [⟨t, (1 : Nat), -1⟩]) 2 ([] : List Pc).length
 rw [h]
 simp
set_option maxRecDepth 100000 in
set_option maxHeartbeats 3200000 in
theorem underOf_any (t : Tr) (k : Nat) (hd : t.Dp k) (hk : k ≤ 100) (hcn : t.cnt ≤ 2000) (hsm : t.Sm) (P : Nat → Prop) (a : Option Addr) (c : Nat) (W : World) (hl : LiesN W P a t.sub) :
    Calls Tryz.prog 17 #[nodeV t a c] W fun e w' => (∃ lv, e = .returned lv ∧ w'.ownsRow W.heap.size 3 1 lv (lfI (ndT t)).length (i64s (lfI (ndT t)))) ∧ Below W.heap.size W w' := by
 obtain ⟨iv, hvi, hv0, hv1, hv2⟩ := info_parts Tryz.infoI
 obtain ⟨w0, HW0, HX, HB⟩ := one_box W #[.int .i64 t.id, .string t.nm, .int .i64 t.rep, .int .i64 t.kind, .slice a t.sub.length c] 24
 have HFl : Hid _ := flatF_any t hsm P a c w0 (hl.keep HB.out)
 have HNd : Hid ((fl t).map Pc.t = ndT t) := fl_nd t k hcn hd hk
 have HLn : Hid ((fl t).length ≤ 2001) := flT_len t [] 1 (-1) (by simp)
 obtain ⟨⟨p0, p1, p2, p3, p4⟩, _⟩ := row_five HX.out
 clear hl hsm hd
 unfold nodeV
 go_enter Tryz.func17, Tryz.ntmps17
 go_wp2_with fail
 rw [HW0.out]
 refine Calls.mono HFl.out ?_
 rintro e w1 ⟨⟨ps, la, lc, rfl, hco, hrow⟩, hb1⟩
 have HB1 : Hid (Below W.heap.size W w1) := HB.out.trans (hb1.mono HB.out.size)
 have hlen : ps.length = (fl t).length := by rw [← hco, List.length_map]
 have hpl : ps.length ≤ 2001 := by rw [hlen]; exact HLn.out
 have hp0 : 0 < ps.length := by rw [hlen]; exact fl_pos t
 obtain ⟨g, rfl, _⟩ := pn_cell hrow 0 hp0
 have HF : Hid (FlI t ps g w1) := ⟨hco, fun X hX i hi k u hk hu => (by
  obtain ⟨g', hg', hc⟩ := pn_cell hrow i hi
  obtain rfl : g = g' := by injection hg' with h; injection h
  have h1 := hc k u hk hu
  exact (hX.cell (World.block_lt_of_cell? w1 _ h1)).trans h1)⟩
 have HLe : Hid (ps.length = (ndT t).length) := (by show _ = _; rw [hlen, ← HNd.out, List.length_map])
 clear hco hrow hb1 HFl p0 p1 p2 p3 p4 hlen
 go_wp2_with fail
 go_loopw [4, 5] (fun y x wr => ∃ i : Nat, i ≤ ps.length ∧ x = .int .i64 i ∧ Hid (wr.ownsRow w1.heap.size 3 1 y (lfI ((ndT t).take i)).length (i64s (lfI ((ndT t).take i)))) ∧ Hid (Below w1.heap.size w1 wr)) (fun _ x _ => ps.length - (intOf x).toNat)
 case atStart => exact ⟨0, Nat.zero_le _, rfl, World.ownsRow_nil _ _ _ _, Below.refl _ _⟩
 case round =>
  obtain ⟨i, hik, rfl, HRow, HBr⟩ := hrel
  obtain ⟨ra, rc, hrv⟩ := own_slC HRow.out
  subst hrv
  by_cases hlt : i < ps.length
  · have hfi : i < (fl t).length := by rw [← HF.out.len]; exact hlt
    have hni : i < (ndT t).length := by rw [← HLe.out]; exact hlt
    have HAt : Hid ((ndT t)[i] = ps[i].t) := (by
     show _ = _
     have e1 : (ndT t)[i] = (fl t)[i].t := by simp [← HNd.out]
     rw [e1, HF.out.at_ i hlt]
     rfl)
    have c0 := HF.out.cell wr HBr.out i hlt 0 _ (by omega) rfl
    have c3 := HF.out.cell wr HBr.out i hlt 3 _ (by omega) rfl
    rw [Nat.add_zero] at c0
    obtain ⟨xt, HXt⟩ := hid_name ps[i].t
    rw [HXt.out] at c0 c3 HAt
    have HTk : Hid ((ndT t).take (i + 1) = (ndT t).take i ++ [xt]) := (by show _ = _; rw [List.take_succ_eq_append_getElem hni, HAt.out])
    have hln := lfI_len ((ndT t).take i)
    have hln2 : (lfI ((ndT t).take i)).length ≤ 2001 := by simp at hln; omega
    by_cases hk0 : xt.kind = 0
    · have q1 : (xt.kind != 0) = false := by simp [hk0]
      have HN : Hid (lfI ((ndT t).take (i + 1)) = lfI ((ndT t).take i)) := (by show _ = _; rw [HTk.out, lfI_app, lfI_one, if_pos hk0, List.append_nil])
      clear hk0
      go_wp2
      go_roundw
      case rel => exact ⟨i + 1, by omega, by go_num, by rw [HN.out]; exact HRow.out, HBr⟩
      case measure => simp [intOf]; omega
    · have q1 : (xt.kind != 0) = true := by simp [hk0]
      have HN : Hid (lfI ((ndT t).take (i + 1)) = lfI ((ndT t).take i) ++ [xt.id]) := (by show _ = _; rw [HTk.out, lfI_app, lfI_one, if_neg hk0])
      have HR2 : Hid ((wr.alloc (.cells #[.int .i64 xt.id] 3)).ownsRow w1.heap.size 3 1 (.slice ra (lfI ((ndT t).take i)).length rc) (lfI ((ndT t).take i)).length (i64s (lfI ((ndT t).take i)))) := HRow.out.alloc _
      have HPush : Hid (∀ (l2 : Value) (w2 : World) (ob : Obj), w2.ownsRow w1.heap.size 3 1 l2 ((lfI ((ndT t).take i)).length + 1) (i64s (lfI ((ndT t).take i)) ++ [.int .i64 xt.id]) → (wr.alloc ob).grownBy w2 (Value.slice ra (lfI ((ndT t).take i)).length rc).ownBlock → w2.ownsRow w1.heap.size 3 1 l2 (lfI ((ndT t).take (i + 1))).length (i64s (lfI ((ndT t).take (i + 1)))) ∧ Below w1.heap.size w1 w2) := fun l2 w2 ob h1 h2 => (by
       refine ⟨?_, (HBr.out.alloc HBr.out.size ob).grown h2 (by have := HBr.out.size; simp; omega) (fun k hk => (HRow.out.lt k hk).1)⟩
       rw [HN.out, i64s_app, List.length_append]
       exact h1)
      clear hk0
      go_wp2_with (at_builtin; refine wpList_append_where _ rfl _ _ 25 rfl w1.heap.size 3 iv (.int .i64 0) 1 8 Tryz.underlying25 hvi hv0 hv1 hv2 rfl (by decide) (.slice ra (lfI ((ndT t).take i)).length rc) _ _ rfl HR2.out ⟨wr.heap.size, 0, none⟩ 1 1 [.int .i64 xt.id] rfl rfl (cell_one_new _ _ _) (by intro u hu; simp at hu; subst hu; rfl) (by unfold maxLen; omega) (by omega) (by have := HBr.out.size; simp; omega) (by decide) ?_; intro l2 w2 hown2 hgr2 _; have HF2 : Hid _ := HPush.out _ _ _ hown2 hgr2; obtain ⟨a9, c9, rfl⟩ := own_slC hown2)
      go_roundw
      case rel => exact ⟨i + 1, by omega, by go_num, HF2.out.1, HF2.out.2⟩
      case measure => simp [intOf]; omega
  · obtain rfl : i = ps.length := by omega
    have HE : Hid (wr.ownsRow W.heap.size 3 1 (.slice ra (lfI ((ndT t).take ps.length)).length rc) (lfI (ndT t)).length (i64s (lfI (ndT t)))) := (by
     have h := HRow.out
     rw [HLe.out, List.take_length] at h ⊢
     exact ⟨h.1, h.2.imp (fun h => h) (fun ⟨g, cap, cur, e1, e2, e3⟩ => ⟨g, cap, cur, e1, by have := HB1.out.size; omega, e3⟩)⟩)
    go_wp2
    go_ret
    exact ⟨⟨_, rfl, HE.out⟩, HB1.out.trans (HBr.out.mono HB1.out.size)⟩
set_option maxRecDepth 100000 in
set_option maxHeartbeats 1600000 in
theorem hasInt_any (a : Option Addr) (c : Nat) (xs : List Int) (n : Int) (W : World) (hl : Lies W a (i64s xs)) (hm : xs.length ≤ maxLen) :
    Calls Tryz.prog 18 #[.slice a xs.length c, .int .i64 n] W fun e w' => e = .returned (.bool (decide (n ∈ xs))) ∧ w' = W := by
 have HL : Hid (Lies W a (i64s xs)) := hl
 have hm2 : xs.length ≤ 9223372036854775807 := hm
 clear hl hm
 go_enter Tryz.func18, Tryz.ntmps18
 go_wp2_with fail
 go_loop [5] (fun x => ∃ i : Nat, i ≤ xs.length ∧ x = .int .i64 i ∧ Hid (∀ j (h : j < xs.length), j < i → xs[j] ≠ n)) (fun x => xs.length - (intOf x).toNat)
 case atStart => exact ⟨0, Nat.zero_le _, rfl, fun j _ h => absurd h (Nat.not_lt_zero _)⟩
 case round =>
  obtain ⟨i, hik, rfl, HA⟩ := hrel
  by_cases hlt : i < xs.length
  · obtain ⟨b, o, rfl, hc⟩ := HL.out i (by rw [i64s_len]; exact hlt)
    have hc2 : W.cell? ⟨b, o + i, none⟩ = some (.int .i64 xs[i]) := by simpa [i64s] using hc
    clear hc
    obtain ⟨x, HX⟩ := hid_name xs[i]
    rw [HX.out] at hc2
    by_cases he : x = n
    · have q1 : (x == n) = true := by simp [he]
      have HE : Hid (decide (n ∈ xs) = true) := (by
       show _ = _
       rw [decide_eq_true_iff, ← he, ← HX.out]
       exact List.getElem_mem hlt)
      clear he
      go_wp2
      go_ret
      exact ⟨by rw [HE.out]; rfl, rfl⟩
    · have q1 : (x == n) = false := by simp [he]
      have HN : Hid (∀ j (h : j < xs.length), j < i + 1 → xs[j] ≠ n) := fun j h hj => (by
       by_cases e : j = i
       · subst e; rw [HX.out]; exact he
       · exact HA.out j h (by omega))
      clear he
      go_wp2
      go_round
      case rel => exact ⟨i + 1, by omega, by go_num, HN⟩
      case measure => simp [intOf]; omega
  · obtain rfl : i = xs.length := by omega
    have HE : Hid (decide (n ∈ xs) = false) := (by
     show _ = _
     rw [decide_eq_false_iff_not]
     intro h
     obtain ⟨j, hj, e⟩ := List.getElem_of_mem h
     exact HA.out j hj hj e)
    go_wp2
    go_ret
    exact ⟨by rw [HE.out]; rfl, rfl⟩
def FoundN (P : Nat → Prop) (t : Tr) (id : Int) (e : Ending) (w : World) : Prop :=
 (∃ (i : Nat) (h : i < (fl t).length) (a' : Option Addr) (c' : Nat), (fl t)[i].t.id = id ∧ (∀ j (h' : j < (fl t).length), j < i → (fl t)[j].t.id ≠ id) ∧ e = .returned (.tuple #[nodeV (fl t)[i].t a' c', .bool true]) ∧ LiesN w P a' (fl t)[i].t.sub ∧ (fl t)[i].t.sub.length ≤ c') ∨
 ((∀ p ∈ fl t, p.t.id ≠ id) ∧ e = .returned (.tuple #[.agg #[.int .i64 0, .string ⟨#[]⟩, .int .i64 0, .int .i64 0, .slice none 0 0], .bool false]))
set_option maxRecDepth 100000 in
set_option maxHeartbeats 6400000 in
theorem findOf_anyN (t : Tr) (hsm : t.Sm) (P : Nat → Prop) (a : Option Addr) (c : Nat) (id : Int) (W : World) (hl : LiesN W P a t.sub) (hcap : t.sub.length ≤ c) :
    Calls Tryz.prog 31 #[nodeV t a c, .int .i64 id] W fun e w' => FoundN P t id e w' ∧ Below W.heap.size W w' := by
 obtain ⟨w0, HW0, HX, HY, HB⟩ := two_boxesS W #[.int .i64 t.id, .string t.nm, .int .i64 t.rep, .int .i64 t.kind, .slice a t.sub.length c] #[.int .i64 0, .string ⟨#[]⟩, .int .i64 0, .int .i64 0, .slice none 0 0] 24 24
 have HFl : Hid _ := flatF_anyL t hsm (fun b => P b ∧ b < W.heap.size) a c w0 (hl.stay (fun _ hp h => ⟨hp, h⟩) (fun b _ h => HB.out.block b h)) hcap
 have HLn : Hid ((fl t).length ≤ 2001) := flT_len t [] 1 (-1) (by simp)
 obtain ⟨⟨p0, p1, p2, p3, p4⟩, _⟩ := row_five HX.out
 clear hl hsm
 unfold nodeV
 go_enter Tryz.func31, Tryz.ntmps31
 go_wp2_with fail
 rw [HW0.out]
 refine Calls.mono HFl.out ?_
 rintro e w1 ⟨⟨ps, la, lc, rfl, hco, hrow, hkp⟩, hb1⟩
 have HKp : Hid _ := hkp
 have HB1 : Hid (Below W.heap.size W w1) := HB.out.trans (hb1.mono HB.out.size)
 have HY1 : Hid (w1.heap[W.heap.size + 1]? = some (.cells #[.int .i64 0, .string ⟨#[]⟩, .int .i64 0, .int .i64 0, .slice none 0 0] 24 (0, 0))) := blk_keep hb1 HY.out
 have hlen : ps.length = (fl t).length := by rw [← hco, List.length_map]
 have hpl : ps.length ≤ 2001 := by rw [hlen]; exact HLn.out
 have hp0 : 0 < ps.length := by rw [hlen]; exact fl_pos t
 obtain ⟨g, rfl, _⟩ := pn_cell hrow 0 hp0
 have HF : Hid (FlI t ps g w1) := ⟨hco, fun X hX i hi k u hk hu => (by
  obtain ⟨g', hg', hc⟩ := pn_cell hrow i hi
  obtain rfl : g = g' := by injection hg' with h; injection h
  have h1 := hc k u hk hu
  exact (hX.cell (World.block_lt_of_cell? w1 _ h1)).trans h1)⟩
 clear hco hrow hb1 hkp HFl p0 p1 p2 p3 p4 hlen
 obtain ⟨⟨z0, z1, z2, z3, z4⟩, f0, f1, f2, f3, f4⟩ := row_five HY1.out
 go_wp2_with fail
 go_loopw [7] (fun x wr => ∃ i : Nat, i ≤ ps.length ∧ x = .int .i64 i ∧ Hid (∀ j (h : j < (fl t).length), j < i → (fl t)[j].t.id ≠ id) ∧ w1 = wr) (fun x _ => ps.length - (intOf x).toNat)
 case atStart => exact ⟨0, Nat.zero_le _, rfl, fun j _ h => absurd h (Nat.not_lt_zero _), rfl⟩
 case round =>
  obtain ⟨i, hik, rfl, HA, rfl⟩ := hrel
  by_cases hlt : i < ps.length
  · have hfi : i < (fl t).length := by rw [← HF.out.len]; exact hlt
    have HAt : Hid ((fl t)[i].t = ps[i].t) := (by show _ = _; rw [HF.out.at_ i hlt]; rfl)
    have c0 := HF.out.cell w1 (Below.refl _ _) i hlt 0 _ (by omega) rfl
    have c1 := HF.out.cell w1 (Below.refl _ _) i hlt 1 _ (by omega) rfl
    have c2 := HF.out.cell w1 (Below.refl _ _) i hlt 2 _ (by omega) rfl
    have c3 := HF.out.cell w1 (Below.refl _ _) i hlt 3 _ (by omega) rfl
    have c4 := HF.out.cell w1 (Below.refl _ _) i hlt 4 _ (by omega) rfl
    rw [Nat.add_zero] at c0
    obtain ⟨xt, HXt⟩ := hid_name ps[i].t
    obtain ⟨xa, HXa⟩ := hid_name ps[i].a
    obtain ⟨xc, HXc⟩ := hid_name ps[i].c
    rw [HXt.out] at c0 c1 c2 c3 c4 HAt
    rw [HXa.out, HXc.out] at c4
    obtain ⟨xi, HXi⟩ := hid_name xt.id
    rw [HXi.out] at c0
    by_cases he : xi = id
    · have q1 : (xi == id) = true := by simp [he]
      have HR : Hid (∀ w', Below W.heap.size W w' → FoundN P t id (.returned (.tuple #[.agg #[.int .i64 xi, .string xt.nm, .int .i64 xt.rep, .int .i64 xt.kind, .slice xa xt.sub.length xc], .bool true])) w') := fun w' hw' => .inl ⟨i, hfi, xa, xc, by rw [HAt.out, HXi.out, he], HA.out, by rw [HAt.out, ← HXi.out], by
          rw [HAt.out]
          have h := HKp.out ps[i] (List.getElem_mem hlt)
          rw [HXt.out, HXa.out, HXc.out] at h
          exact ⟨h.1.stay (fun _ hb _ => hb.1.1) (fun b hb _ => (hw'.block b hb.1.2).trans (HB1.out.block b hb.1.2).symm), h.2⟩⟩
      clear he
      go_wp2
      exact bodyPost_ret (v := .tuple #[.agg #[.int .i64 xi, .string xt.nm, .int .i64 xt.rep, .int .i64 xt.kind, .slice xa xt.sub.length xc], .bool true]) (results_cS Tryz.results31 _ _ (W.heap.size + 1) 24 #[.int .i64 xi, .string xt.nm, .int .i64 xt.rep, .int .i64 xt.kind, .slice xa xt.sub.length xc] (0, 0) _ (.bool true) rfl rfl (row_setC (row_setC (row_setC (row_setC (row_setC HY1.out))))) Tryz.underlying24 rfl (by kernel_rfl)) rfl (have hz := ((((HB1.out.setCell (by simp) _).setCell (by simp) _).setCell (by simp) _).setCell (by simp) _).setCell (by simp) _; ⟨HR.out _ hz, hz⟩)
    · have q1 : (xi == id) = false := by simp [he]
      have HN : Hid (∀ j (h : j < (fl t).length), j < i + 1 → (fl t)[j].t.id ≠ id) := fun j h hj => (by
       by_cases e : j = i
       · subst e; rw [HAt.out, HXi.out]; exact he
       · exact HA.out j h (by omega))
      clear he
      go_wp2
      go_roundw
      case rel => exact ⟨i + 1, by omega, by go_num, HN, by first | rfl | trivial⟩
      case measure => simp [intOf]; omega
  · obtain rfl : i = ps.length := by omega
    have HR : Hid (∀ w', Below W.heap.size W w' → FoundN P t id (.returned (.tuple #[.agg #[.int .i64 0, .string ⟨#[]⟩, .int .i64 0, .int .i64 0, .slice none 0 0], .bool false])) w') := fun _ _ => .inr ⟨fun p hp => (by
     obtain ⟨j, hj, rfl⟩ := List.getElem_of_mem hp
     exact HA.out j hj (by rw [HF.out.len]; exact hj)), rfl⟩
    go_wp2
    exact bodyPost_ret (v := .tuple #[.agg #[.int .i64 0, .string ⟨#[]⟩, .int .i64 0, .int .i64 0, .slice none 0 0], .bool false]) (results_cS Tryz.results31 _ _ (W.heap.size + 1) 24 #[.int .i64 0, .string ⟨#[]⟩, .int .i64 0, .int .i64 0, .slice none 0 0] (0, 0) _ (.bool false) rfl rfl (row_setC (row_setC (row_setC (row_setC (row_setC HY1.out))))) Tryz.underlying24 rfl (by kernel_rfl)) rfl (have hz := ((((HB1.out.setCell (by simp) _).setCell (by simp) _).setCell (by simp) _).setCell (by simp) _).setCell (by simp) _; ⟨HR.out _ hz, hz⟩)
structure KI (W : World) (t : Tr) (a : Option Addr) (c : Nat) (wr : World) (us : List Tr) (l : Value) (ncs : List (List Value)) : Prop where
 box : wr.heap[W.heap.size]? = some (.cells #[.int .i64 t.id, .string t.nm, .int .i64 t.rep, .int .i64 t.kind, .slice a t.sub.length c] 24 (0, 0))
 res : wr.heap[W.heap.size + 1]? = some (.cells #[.int .i64 0, .string ⟨#[]⟩, .int .i64 0, .int .i64 0, .slice none 0 0] 24 (0, 0))
 out : wr.heap[W.heap.size + 1 + 1]? = some (.cells #[.int .i64 t.id, .string t.nm, .int .i64 t.rep, .int .i64 t.kind, l] 24 (0, 0))
 len : ncs.length = us.length
 five : ∀ x ∈ ncs, x.length = 5
 row : wr.ownsRow (W.heap.size + 3) 24 5 l us.length ncs.flatten
 each : ∀ j (h : j < ncs.length) (h' : j < us.length), NodeC wr (fun b => W.heap.size + 3 ≤ b ∧ l.ownBlock ≠ some b) us[j] ncs[j]
 old : Below W.heap.size W wr
 big : W.heap.size + 3 ≤ wr.heap.size
theorem KI.shape {W : World} {t : Tr} {a : Option Addr} {c : Nat} {wr : World} {us : List Tr} {l : Value} {ncs : List (List Value)} (h : KI W t a c wr us l ncs) : ∃ a' c', l = .slice a' us.length c' ∧ us.length ≤ c' := by
 rcases h.row.2 with ⟨h0, h1⟩ | ⟨g, cap, cur, h0, _, _, hnc, _⟩
 · exact ⟨none, 0, by rw [h0, h1], by omega⟩
 · exact ⟨_, cap, h0, hnc⟩
theorem KI.lies {W : World} {t : Tr} {a : Option Addr} {c : Nat} {wr : World} {us : List Tr} {a' : Option Addr} {c' : Nat} {ncs : List (List Value)} (h : KI W t a c wr us (.slice a' us.length c') ncs) : LiesN wr (fun b => W.heap.size + 3 ≤ b) a' us := by
 refine ⟨fun j => ncs.getD j [], fun j hj => ?_, fun j hj => ?_⟩
 · have hjn : j < ncs.length := by rw [h.len]; exact hj
   have e : ncs.getD j [] = ncs[j] := by simp [List.getD, hjn]
   show NodeAt wr _ a' j (ncs.getD j [])
   rw [e]
   have h5 := h.five ncs[j] (List.getElem_mem hjn)
   rcases h.row.2 with ⟨_, h0⟩ | ⟨g, cap, cur, hv, hbg, _⟩
   · exact absurd hj (by omega)
   · have hv' := hv
     injection hv' with ha _ _
     subst ha
     have hc : ∀ k u, ncs[j][k]? = some u → k < 5 → wr.cell? ⟨g, j * 5 + k, none⟩ = some u := fun k u hu hk => by
      have h1 := h.row.cells (g := g) rfl (j * 5 + k) u (by rw [flat5 ncs h.five j k hk, List.getElem?_eq_getElem hjn]; exact hu)
      rw [addr_plus, Nat.zero_add] at h1
      exact h1
     generalize ncs[j] = cs at *
     match cs, h5 with
     | [x0, x1, x2, x3, x4], _ =>
      have c0 := hc 0 x0 rfl (by omega)
      have c1 := hc 1 x1 rfl (by omega)
      have c2 := hc 2 x2 rfl (by omega)
      have c3 := hc 3 x3 rfl (by omega)
      have c4 := hc 4 x4 rfl (by omega)
      exact ⟨g, 0, x0, x1, x2, x3, x4, rfl, by omega, rfl, by simpa using c0, by simpa using c1, by simpa using c2, by simpa using c3, by simpa using c4⟩
 · have hjn : j < ncs.length := by rw [h.len]; exact hj
   have e : ncs.getD j [] = ncs[j] := by simp [List.getD, hjn]
   show NodeC wr _ us[j] (ncs.getD j [])
   rw [e]
   exact (h.each j hjn hj).stay (fun b hP _ => hP.1) (fun _ _ _ => rfl)
theorem KI.keep {W : World} {t : Tr} {a : Option Addr} {c : Nat} {wr w1 : World} {us : List Tr} {l : Value} {ncs : List (List Value)} (h : KI W t a c wr us l ncs) (hb : Below wr.heap.size wr w1) : KI W t a c w1 us l ncs :=
 ⟨blk_keep hb h.box, blk_keep hb h.res, blk_keep hb h.out, h.len, h.five, ow_kept h.row hb, fun j hj hj' => (h.each j hj hj').stay (fun _ h _ => h) (fun b _ hl => hb.block b hl), h.old.trans (hb.mono h.old.size), Nat.le_trans h.big hb.size⟩
theorem KI.apart {W : World} {t : Tr} {a : Option Addr} {c : Nat} {wr : World} {us : List Tr} {l : Value} {ncs : List (List Value)} (h : KI W t a c wr us l ncs) {k : Nat} (hk : k < W.heap.size + 3) : some k ≠ l.ownBlock := by
 rcases h.row.2 with ⟨rfl, _⟩ | ⟨g, cap, cur, rfl, hg, _⟩
 · simp [Value.ownBlock]
 · simp [Value.ownBlock]; omega
theorem KI.three {W : World} {t : Tr} {a : Option Addr} {c : Nat} {wr w1 w2 : World} {us : List Tr} {l : Value} {ncs : List (List Value)} (h : KI W t a c wr us l ncs) (hb : Below wr.heap.size wr w1) {ob : Obj} (hg : (w1.alloc ob).grownBy w2 l.ownBlock) {k : Nat} (hk : k < W.heap.size + 3) : w2.heap[k]? = wr.heap[k]? := by
 have h1 : k < wr.heap.size := Nat.lt_of_lt_of_le hk h.big
 have h2 : k < w1.heap.size := Nat.lt_of_lt_of_le h1 hb.size
 rw [hg.block k (by simp; omega) (h.apart hk), heap_alloc_old w1 ob h2, hb.block k h1]
theorem KI.push {W : World} {t : Tr} {a : Option Addr} {c : Nat} {wr w1 w2 : World} {us : List Tr} {u : Tr} {l l' : Value} {ncs : List (List Value)} {a1 : Option Addr} {c1 : Nat} (h : KI W t a c wr us l ncs) (hb : Below wr.heap.size wr w1) (hc1 : u.sub.length ≤ c1) (hn : LiesN w1 (fun b => wr.heap.size ≤ b) a1 u.sub) {ob : Obj}
    (hown : w2.ownsRow (W.heap.size + 3) 24 5 l' (us.length + 1) (ncs.flatten ++ [.int .i64 u.id, .string u.nm, .int .i64 u.rep, .int .i64 u.kind, .slice a1 u.sub.length c1])) (hg : (w1.alloc ob).grownBy w2 l.ownBlock) (hw : l'.ownBlock = l.ownBlock ∧ l.ownBlock ≠ none ∨ l'.ownBlock = some (w1.alloc ob).heap.size) :
    KI W t a c (w2.setCell ⟨W.heap.size + 1 + 1, 4, none⟩ l') (us ++ [u]) l' (ncs ++ [[.int .i64 u.id, .string u.nm, .int .i64 u.rep, .int .i64 u.kind, .slice a1 u.sub.length c1]]) := by
 have hbig := h.big
 have hbs := hb.size
 have hgs := hg.size
 simp only [World.size_alloc] at hgs
 have hlb : ∀ k, l.ownBlock = some k → k < wr.heap.size := fun k hk => (h.row.lt k hk).2
 have hset : ∀ k, k ≠ W.heap.size + 1 + 1 → (w2.setCell ⟨W.heap.size + 1 + 1, 4, none⟩ l').heap[k]? = w2.heap[k]? := fun k hk => Below.heap_setCell _ _ _ _ hk
 have b1 : Below W.heap.size W w2 := ((h.old.trans (hb.mono h.old.size)).alloc (h.old.trans (hb.mono h.old.size)).size ob).grown hg (by have := h.old.size; simp; omega) (fun k hk => by have := (h.row.lt k hk).1; omega)
 refine ⟨?_, ?_, ?_, by rw [List.length_append, List.length_append, h.len]; rfl, fun x hx => ?_, ?_, fun j hj hj' => ?_, ?_, ?_⟩
 · rw [hset _ (by omega), h.three hb hg (by omega)]; exact h.box
 · rw [hset _ (by omega), h.three hb hg (by omega)]; exact h.res
 · rw [row_setC ((h.three hb hg (by omega)).trans h.out)]
   rfl
 · rcases List.mem_append.1 hx with hx | hx
   · exact h.five x hx
   · rw [List.mem_singleton.1 hx]; rfl
 · rw [List.flatten_append, List.length_append]
   have hown2 : w2.ownsRow (W.heap.size + 3) 24 5 l' (us.length + 1) (ncs.flatten ++ [[.int .i64 u.id, .string u.nm, .int .i64 u.rep, .int .i64 u.kind, .slice a1 u.sub.length c1]].flatten) := by simpa using hown
   refine ⟨hown2.1, ?_⟩
   rcases hown2.2 with hn0 | ⟨g, cap, cur, h1, hbg, hgg, rest⟩
   · exact .inl hn0
   · exact .inr ⟨g, cap, cur, h1, hbg, (hset g (by omega)).trans hgg, rest⟩
 · by_cases hjl : j < ncs.length
   · rw [List.getElem_append_left hjl, List.getElem_append_left (by rw [← h.len]; exact hjl)]
     refine (h.each j hjl (by rw [← h.len]; exact hjl)).stay (fun b hP hlt => ⟨hP.1, ?_⟩) (fun b hP hlt => ?_)
     · rw [hset b (by omega), hg.block b (by simp; omega) (fun e => hP.2 e.symm), heap_alloc_old w1 ob (show b < w1.heap.size by omega), hb.block b hlt]
     · rcases hw with ⟨e, _⟩ | e
       · rw [e]; exact hP.2
       · rw [e]; simp; omega
   · have hje : j = ncs.length := by rw [List.length_append] at hj; simp at hj; omega
     have hju : j = us.length := by rw [hje, h.len]
     have ee : (ncs ++ [[.int .i64 u.id, .string u.nm, .int .i64 u.rep, .int .i64 u.kind, .slice a1 u.sub.length c1]])[j] = [.int .i64 u.id, .string u.nm, .int .i64 u.rep, .int .i64 u.kind, .slice a1 u.sub.length c1] := by
      rw [List.getElem_append_right (by omega)]
      simp
     have eu : (us ++ [u])[j] = u := by
      rw [List.getElem_append_right (by omega)]
      simp
     rw [ee, eu]
     refine NodeC.join c1 hc1 (hn.stay (fun b hP hlt => ⟨by omega, ?_⟩) (fun b hP hlt => ?_))
     · rcases hw with ⟨e, hne⟩ | e
       · rw [e]
         intro e2
         have := hlb b e2
         omega
       · rw [e]; simp; omega
     · rw [hset b (by omega), hg.block b (by simp; omega) (fun e => by have := hlb b e.symm; omega), heap_alloc_old w1 ob hlt]
 · exact ⟨b1.os, b1.tape, b1.output, by simp only [World.size_setCell]; exact b1.size, fun k hk => (hset k (by omega)).trans (b1.block k hk)⟩
 · simp only [World.size_setCell]; omega
theorem any_take1 (f : Int → Bool) (l : List Int) (k : Nat) (h : k < l.length) : (l.take (k + 1)).any f = ((l.take k).any f || f l[k]) := by
 rw [List.take_succ_eq_append_getElem h, List.any_append]
 simp
set_option maxRecDepth 100000 in
set_option maxHeartbeats 6400000 in
theorem keepR_any (L : List Int) (la : Option Addr) (lc : Nat) (hL : L.length ≤ 1000000) : ∀ (n : Nat) (t : Tr), SizeOf.sizeOf t < n → t.Sm → ∀ (k : Nat), t.Dp k → k ≤ 100 → t.cnt ≤ 2000 → ∀ (P : Nat → Prop) (a : Option Addr) (c : Nat) (W : World), LiesN W P a t.sub → Lies W la (i64s L) →
    Calls Tryz.prog 32 #[nodeV t a c, .slice la L.length lc] W fun e w' => (∃ a' c', e = .returned (.agg #[.int .i64 t.id, .string t.nm, .int .i64 t.rep, .int .i64 t.kind, .slice a' (rkL L t.sub).length c']) ∧ LiesN w' (fun b => W.heap.size ≤ b) a' (rkL L t.sub) ∧ (rkL L t.sub).length ≤ c') ∧ Below W.heap.size W w'
 | 0, t, h => absurd h (Nat.not_lt_zero _)
 | n + 1, t, hsz => fun hsm kd hd hkd hcn P a c W hl hla => by
  obtain ⟨iv, hvi, hv0, hv1, hv2⟩ := info_parts Tryz.infoN
  have HL : Hid (LiesN W P a t.sub) := hl
  have HLa : Hid (Lies W la (i64s L)) := hla
  have hlen := hsm.len
  have hsubs : ∀ j (hj : j < t.sub.length), t.sub[j].Sm ∧ t.sub[j].Dp kd ∧ t.sub[j].cnt ≤ 2000 := fun j hj => by
   obtain ⟨k1, k2, k3⟩ := nd_in (SizeOf.sizeOf t + 1) t (Nat.lt_succ_self _) t.sub[j] (nd_sub (List.getElem_mem hj) (nd_self _))
   exact ⟨hsm.at_ j hj, k2 kd hd, by omega⟩
  have HUo : Hid (∀ j (hj : j < t.sub.length) (P : Nat → Prop) (a : Option Addr) (c : Nat) (W : World), LiesN W P a t.sub[j].sub → Calls Tryz.prog 17 #[.agg #[.int .i64 t.sub[j].id, .string t.sub[j].nm, .int .i64 t.sub[j].rep, .int .i64 t.sub[j].kind, .slice a t.sub[j].sub.length c]] W fun e w' => (∃ lv, e = .returned lv ∧ w'.ownsRow W.heap.size 3 1 lv (lfI (ndT t.sub[j])).length (i64s (lfI (ndT t.sub[j])))) ∧ Below W.heap.size W w') := fun j hj P a c W h => underOf_any t.sub[j] kd (hsubs j hj).2.1 hkd (hsubs j hj).2.2 (hsubs j hj).1 P a c W h
  have HIH : Hid (∀ j (hj : j < t.sub.length) (P : Nat → Prop) (a : Option Addr) (c : Nat) (W : World), LiesN W P a t.sub[j].sub → Lies W la (i64s L) → Calls Tryz.prog 32 #[.agg #[.int .i64 t.sub[j].id, .string t.sub[j].nm, .int .i64 t.sub[j].rep, .int .i64 t.sub[j].kind, .slice a t.sub[j].sub.length c], .slice la L.length lc] W fun e w' => (∃ a' c', e = .returned (.agg #[.int .i64 t.sub[j].id, .string t.sub[j].nm, .int .i64 t.sub[j].rep, .int .i64 t.sub[j].kind, .slice a' (rkL L t.sub[j].sub).length c']) ∧ LiesN w' (fun b => W.heap.size ≤ b) a' (rkL L t.sub[j].sub) ∧ (rkL L t.sub[j].sub).length ≤ c') ∧ Below W.heap.size W w') := fun j hj P a c W h h2 => keepR_any L la lc hL n t.sub[j] (by have := t.sub_size j hj; omega) (hsubs j hj).1 kd (hsubs j hj).2.1 hkd (hsubs j hj).2.2 P a c W h h2
  have HLf : Hid (∀ j (hj : j < t.sub.length), (lfI (ndT t.sub[j])).length ≤ 2000) := fun j hj => (by
   have h1 := lfI_len (ndT t.sub[j])
   rw [ndT_len] at h1
   have := (hsubs j hj).2.2
   omega)
  clear hl hsm hsz hla hd hsubs
  obtain ⟨w0, HW0, HX, HY, HZ, HB, HSz⟩ := three_boxesS W #[.int .i64 t.id, .string t.nm, .int .i64 t.rep, .int .i64 t.kind, .slice a t.sub.length c] #[.int .i64 0, .string ⟨#[]⟩, .int .i64 0, .int .i64 0, .slice none 0 0] #[.int .i64 t.id, .string t.nm, .int .i64 t.rep, .int .i64 t.kind, .slice none 0 0] 24 24 24
  have HS : Hid (KI W t a c w0 [] (.slice none 0 0) []) := ⟨HX.out, HY.out, HZ.out, rfl, fun x hx => by simp at hx, World.ownsRow_nil _ _ _ _, fun j h => absurd h (by simp), HB.out, by rw [HSz.out]; omega⟩
  unfold nodeV
  go_enter Tryz.func32, Tryz.ntmps32
  go_wp2_with fail
  rw [HW0.out]
  go_loopw [6] (fun x wr => ∃ (i : Nat) (l : Value) (ncs : List (List Value)), i ≤ t.sub.length ∧ x = .int .i64 i ∧ Hid (KI W t a c wr (rkL L (t.sub.take i)) l ncs)) (fun x _ => t.sub.length - (intOf x).toNat)
  case atStart => exact ⟨0, _, [], Nat.zero_le _, rfl, by rw [List.take_zero, rkL]; exact HS.out⟩
  case round =>
   clear HS
   obtain ⟨i, l, ncs, hik, rfl, HO⟩ := hrel
   rename World => wr
   obtain ⟨⟨p0, p1, p2, p3, p4⟩, _⟩ := row_five HO.out.box
   have hb := HO.out.old
   have hkl := rkL_len L (t.sub.take i)
   have hkl2 : (rkL L (t.sub.take i)).length ≤ 1048576 := by simp at hkl; omega
   obtain ⟨ra, rc, hlv, hlc⟩ := HO.out.shape
   subst hlv
   by_cases hlt : i < t.sub.length
   · obtain ⟨b, o, a1, c1, rfl, d0, d1, d2, d3, d4, hl1⟩ := (HL.out.keep hb).at_ i hlt
     have HL1 : Hid (LiesN wr P a1 t.sub[i].sub) := hl1
     have HC : Hid _ := HUo.out i hlt P a1 c1 wr hl1
     have hlf := HLf.out i hlt
     clear hl1
     have HTk : Hid _ := rkL_take L t.sub i hlt
     obtain ⟨zs, HZs⟩ := hid_name (lfI (ndT t.sub[i]))
     rw [HZs.out] at HC HTk hlf
     go_wp2_with fail
     refine Calls.mono HC.out ?_
     rintro e w1 ⟨⟨uv, rfl, hown⟩, hb1⟩
     obtain ⟨ua, uc, huv, hul⟩ := lies_own hown
     rw [i64s_len] at huv
     subst huv
     have HUl : Hid (Lies w1 ua (i64s zs)) := hul
     have HB1 : Hid (Below wr.heap.size wr w1) := hb1
     have HK1 : Hid (KI W t (some ⟨b, o, none⟩) c w1 (rkL L (t.sub.take i)) (.slice ra (rkL L (t.sub.take i)).length rc) ncs) := HO.out.keep hb1
     have HLa1 : Hid (Lies w1 la (i64s L)) := HLa.out.keep HK1.out.old
     clear hown hul hb1 HC p0 p1 p2 p3 p4 d0 d1 d2 d3 d4
     go_wp2_with fail
     go_loopw [8, 9] (fun y x wx => ∃ (k : Nat) (yb : Bool), k ≤ zs.length ∧ x = .int .i64 k ∧ y = .bool yb ∧ Hid (yb = (zs.take k).any (fun i => L.contains i)) ∧ w1 = wx) (fun _ x _ => zs.length - (intOf x).toNat)
     case atStart => exact ⟨0, false, Nat.zero_le _, rfl, rfl, rfl, rfl⟩
     case round =>
      obtain ⟨k, yb, hkz, rfl, rfl, HYb, rfl⟩ := hrel
      by_cases hkl : k < zs.length
      · obtain ⟨b1, o1, rfl, e1⟩ := HUl.out k (by rw [i64s_len]; exact hkl)
        have g1 : w1.cell? ⟨b1, o1 + k, none⟩ = some (.int .i64 zs[k]) := by simpa [i64s] using e1
        clear e1
        have HTy : Hid _ := any_take1 (fun i => L.contains i) zs k hkl
        obtain ⟨z, HZz⟩ := hid_name zs[k]
        rw [HZz.out] at g1 HTy
        have HH : Hid _ := hasInt_any la lc L z w1 HLa1.out (by unfold maxLen; omega)
        have HDc : Hid (decide (z ∈ L) = L.contains z) := (by show _ = _; simp)
        rw [HDc.out] at HH
        obtain ⟨cb, HCb⟩ := hid_name (L.contains z)
        rw [HCb.out] at HH
        go_wp2_with fail
        refine Calls.mono HH.out ?_
        rintro e w2 ⟨rfl, hw2⟩
        obtain rfl := hw2.symm
        have HYn : Hid ((yb || cb) = (zs.take (k + 1)).any (fun i => L.contains i)) := (by show _ = _; rw [HTy.out, HYb.out, HCb.out])
        cases yb with
        | true =>
         go_wp2
         go_roundw
         case rel => exact ⟨k + 1, true, by omega, by go_num, rfl, HYn, by first | rfl | trivial⟩
         case measure => simp [intOf]; omega
        | false =>
         go_wp2
         go_roundw
         case rel => exact ⟨k + 1, cb, by omega, by go_num, rfl, HYn, by first | rfl | trivial⟩
         case measure => simp [intOf]; omega
      · obtain rfl : k = zs.length := by omega
        rw [List.take_length] at HYb
        cases yb with
        | false =>
         have HKn : Hid (KI W t (some ⟨b, o, none⟩) c w1 (rkL L (t.sub.take (i + 1))) (.slice ra (rkL L (t.sub.take i)).length rc) ncs) := (by
          show KI _ _ _ _ _ _ _ _
          have e : rkL L (t.sub.take (i + 1)) = rkL L (t.sub.take i) := by rw [HTk.out, ← HYb.out]; simp
          rw [e]
          exact HK1.out)
         go_wp2
         go_roundw
         case rel => exact ⟨i + 1, _, _, by omega, by go_num, HKn⟩
         case measure => simp [intOf]; omega
        | true =>
         have HTk2 : Hid (rkL L (t.sub.take (i + 1)) = rkL L (t.sub.take i) ++ [rkT L t.sub[i]]) := (by show _ = _; rw [HTk.out, ← HYb.out]; simp)
         obtain ⟨b', o', a9, c9, e9, d0, d1, d2, d3, d4, hl9⟩ := (HL.out.keep HK1.out.old).at_ i hlt
         obtain ⟨rfl, rfl⟩ : b = b' ∧ o = o' := (by injection e9 with e9; injection e9 with e1 e2 _; exact ⟨e1, e2⟩)
         have HC : Hid _ := HIH.out i hlt P a9 c9 w1.drew (hl9.stay (fun _ h _ => h) (fun _ _ _ => rfl)) HLa1.out
         have HRow : Hid (w1.ownsRow (W.heap.size + 3) 24 5 (.slice ra (rkL L (t.sub.take i)).length rc) (rkL L (t.sub.take i)).length ncs.flatten) := HK1.out.row
         have HP : Hid (∀ (w2 w3 : World) (ob : Obj), Below w1.heap.size w1 w2 → (w2.alloc ob).grownBy w3 (Value.slice ra (rkL L (t.sub.take i)).length rc).ownBlock → w3.heap[W.heap.size + 1 + 1]? = some (.cells #[.int .i64 t.id, .string t.nm, .int .i64 t.rep, .int .i64 t.kind, .slice ra (rkL L (t.sub.take i)).length rc] 24 (0, 0))) := fun w2 w3 ob h1 h2 => (HK1.out.three h1 h2 (by omega)).trans HK1.out.out
         have hbig := HK1.out.big
         obtain ⟨⟨p0, p1, p2, p3, p4⟩, _⟩ := row_five HK1.out.box
         obtain ⟨⟨r0, r1, r2, r3, r4⟩, f0, f1, f2, f3, f4⟩ := row_five HK1.out.out
         have HPsh : Hid (∀ (w2 w3 : World) (l' : Value) (a2 : Option Addr) (c2 : Nat) (ob : Obj), Below w1.heap.size w1 w2 → (rkL L t.sub[i].sub).length ≤ c2 → LiesN w2 (fun b => w1.heap.size ≤ b) a2 (rkL L t.sub[i].sub) → w3.ownsRow (W.heap.size + 3) 24 5 l' ((rkL L (t.sub.take i)).length + 1) (ncs.flatten ++ [.int .i64 t.sub[i].id, .string t.sub[i].nm, .int .i64 t.sub[i].rep, .int .i64 t.sub[i].kind, .slice a2 (rkL L t.sub[i].sub).length c2]) → (w2.alloc ob).grownBy w3 (Value.slice ra (rkL L (t.sub.take i)).length rc).ownBlock → (l'.ownBlock = (Value.slice ra (rkL L (t.sub.take i)).length rc).ownBlock ∧ (Value.slice ra (rkL L (t.sub.take i)).length rc).ownBlock ≠ none ∨ l'.ownBlock = some (w2.alloc ob).heap.size) → KI W t (some ⟨b, o, none⟩) c (w3.setCell ⟨W.heap.size + 1 + 1, 4, none⟩ l') (rkL L (t.sub.take (i + 1))) l' (ncs ++ [[.int .i64 t.sub[i].id, .string t.sub[i].nm, .int .i64 t.sub[i].rep, .int .i64 t.sub[i].kind, .slice a2 (rkL L t.sub[i].sub).length c2]])) := fun w2 w3 l' a2 c2 ob h1 h2 h3 h4 h5 h6 => (by
          rw [HTk2.out]
          obtain ⟨k1, k2, k3, k4, k5⟩ := rkT_id L t.sub[i]
          have h := HK1.out.push (u := rkT L t.sub[i]) h1 (a1 := a2) (c1 := c2) (by rw [k5]; exact h2) (by rw [k5]; exact h3) (l' := l') (ob := ob) (by rw [k1, k2, k3, k4, k5]; exact h4) h5 h6
          rw [k1, k2, k3, k4, k5] at h
          exact h)
         clear hl9
         go_wp2_with fail
         go_region_law (first
          | (refine step_own_where _ rfl _ _ 22 rfl (W.heap.size + 3) 24 iv (.agg #[.int .i64 0, .string ⟨#[]⟩, .int .i64 0, .int .i64 0, .slice none 0 0]) 5 64 Tryz.underlying22 hvi hv0 hv1 hv2 rfl (by decide) _ (rkL L (t.sub.take i)).length ncs.flatten rfl ((ow_kept HRow.out hb2).alloc _) ⟨w2.heap.size, 0, none⟩ 1 1 [.int .i64 t.sub[i].id, .string t.sub[i].nm, .int .i64 t.sub[i].rep, .int .i64 t.sub[i].kind, .slice a2 (rkL L t.sub[i].sub).length c2] rfl rfl five_cells (by intro u hu; simp at hu; rcases hu with rfl | rfl | rfl | rfl | rfl <;> rfl) (by unfold maxLen; omega) (by omega) (by have := hb2.size; simp; omega) (by decide) ?_; intro l' w3 hown3 hgrow3 hwh; obtain ⟨g3, cap3, rfl⟩ := own_shape hown3; obtain ⟨⟨_, _, _, _, y4⟩, _, _, _, _, z4⟩ := row_five (HP.out _ _ _ hb2 hgrow3); have HOn : Hid _ := HPsh.out _ _ _ _ _ _ hb2 hc2 HL2.out hown3 hgrow3 hwh)
          | (go_simp; refine Calls.mono HC.out ?_; rintro e w2 ⟨⟨a2, c2, rfl, hl2, hc2⟩, hbb⟩; have HL2 : Hid (LiesN w2 (fun b => w1.heap.size ≤ b) a2 (rkL L t.sub[i].sub)) := hl2; clear hl2; have hb2 : Below w1.heap.size w1 w2 := (Below.refl _ _).drew.trans hbb; have r4' := (hb2.cell (World.block_lt_of_cell? w1 _ r4)).trans r4; have hs1 : W.heap.size + 1 + 1 < w2.heap.size := (by have := hb2.size; omega); have r5' : ∀ ob : Obj, (w2.alloc ob).cell? ⟨W.heap.size + 1 + 1, 4, none⟩ = some (.slice ra (rkL L (t.sub.take i)).length rc) := fun ob => (((Below.refl w2.heap.size w2).alloc (Nat.le_refl _) ob).cell hs1).trans r4'))
         all_goals
          go_wp2
          go_roundw
          case rel => exact ⟨i + 1, _, _, by omega, by go_num, HOn⟩
          case measure => simp [intOf]; omega
   · obtain rfl : i = t.sub.length := by omega
     obtain ⟨⟨s0, s1, s2, s3, s4⟩, t0, t1, t2, t3, t4⟩ := row_five HO.out.res
     obtain ⟨⟨q0, q1, q2, q3, q4⟩, _⟩ := row_five HO.out.out
     have HO2 := HO.out
     rw [List.take_length] at HO2 hlc
     have HLs : Hid (LiesN wr (fun b => W.heap.size + 3 ≤ b) ra (rkL L t.sub)) := HO2.lies
     have HRw : Hid _ := row_setC (j := 4) (v := .slice ra (rkL L t.sub).length rc) (row_setC (j := 3) (v := .int .i64 t.kind) (row_setC (j := 2) (v := .int .i64 t.rep) (row_setC (j := 1) (v := .string t.nm) (row_setC (j := 0) (v := .int .i64 t.id) HO.out.res))))
     rw [List.take_length] at q4
     clear HO2
     go_wp2
     refine bodyPost_ret (v := .agg #[.int .i64 t.id, .string t.nm, .int .i64 t.rep, .int .i64 t.kind, .slice ra (rkL L t.sub).length rc]) (results_cell_row Tryz.results32 _ _ (W.heap.size + 1) 24 #[.int .i64 t.id, .string t.nm, .int .i64 t.rep, .int .i64 t.kind, .slice ra (rkL L t.sub).length rc] (0, 0) _ rfl HRw.out Tryz.underlying24 rfl (by kernel_rfl)) rfl ⟨⟨ra, rc, rfl, ?_, hlc⟩, ?_⟩
     · exact HLs.out.stay (fun b h _ => by omega) (fun b h _ => by
         have h2 : b ≠ W.heap.size + 1 := by omega
         rw [Below.heap_setCell _ _ _ _ h2, Below.heap_setCell _ _ _ _ h2, Below.heap_setCell _ _ _ _ h2, Below.heap_setCell _ _ _ _ h2, Below.heap_setCell _ _ _ _ h2])
     · exact ((((hb.setCell (by simp) _).setCell (by simp) _).setCell (by simp) _).setCell (by simp) _).setCell (by simp) _
theorem found_some {t : Tr} {id : Int} (hB : (fl t).map Pc.t = ndT t) (i : Nat) (hi : i < (fl t).length) (h1 : (fl t)[i].t.id = id) (h2 : ∀ j (h' : j < (fl t).length), j < i → (fl t)[j].t.id ≠ id) : (ndT t).find? (fun y => y.id == id) = some (fl t)[i].t := by
 rw [← hB, List.find?_map]
 have h : (fl t).find? ((fun y : Tr => y.id == id) ∘ Pc.t) = some (fl t)[i] := by
  rw [List.find?_eq_some_iff_getElem]
  exact ⟨by simp [h1], i, hi, rfl, fun j hj => by simp [h2 j (by omega) hj]⟩
 rw [h]
 rfl
theorem askL_snoc (q : List Int) (z : Int) (t x : Tr) (h : (ndT t).find? (fun y => y.id == z) = some x) : askL (q ++ [z]) t = askL q t ++ lfI (ndT x) := by
 unfold askL
 rw [List.flatMap_append]
 simp [h]
def FdC (P : Nat → Prop) (t : Tr) (z : Int) (w : World) (y0 y2 y3 : Int) (y1 : ByteArray) (ya : Option Addr) (yn : Nat) (is : Bool) : Prop :=
 (is = true ∧ ∃ x, (ndT t).find? (fun y => y.id == z) = some x ∧ y0 = x.id ∧ y1 = x.nm ∧ y2 = x.rep ∧ y3 = x.kind ∧ yn = x.sub.length ∧ LiesN w P ya x.sub) ∨ (is = false ∧ z ∉ (ndT t).map Tr.id)
theorem fdC_of {P : Nat → Prop} {t : Tr} {id : Int} {e : Ending} {w : World} (hB : (fl t).map Pc.t = ndT t) (h : FoundN P t id e w) : ∃ (y0 y2 y3 : Int) (y1 : ByteArray) (ya : Option Addr) (yn yc : Nat) (is : Bool), e = .returned (.tuple #[.agg #[.int .i64 y0, .string y1, .int .i64 y2, .int .i64 y3, .slice ya yn yc], .bool is]) ∧ Hid (FdC P t id w y0 y2 y3 y1 ya yn is) := by
 rcases h with ⟨i, hi, a', c', h1, h2, rfl, h3, h4⟩ | ⟨h1, rfl⟩
 · exact ⟨_, _, _, _, a', _, c', true, rfl, .inl ⟨rfl, (fl t)[i].t, found_some hB i hi h1 h2, rfl, rfl, rfl, rfl, rfl, h3⟩⟩
 · refine ⟨_, _, _, _, _, _, _, false, rfl, .inr ⟨rfl, fun h => ?_⟩⟩
   obtain ⟨x, hx, e⟩ := List.mem_map.1 h
   rw [← hB] at hx
   obtain ⟨p, hp, rfl⟩ := List.mem_map.1 hx
   exact h1 p hp e
theorem hidK {p : Prop} (h : p) : Hid p := h
abbrev set5k (w : World) (g : Nat) (x0 x1 x2 x3 x4 : Value) : World := ((((w.setCell ⟨g, 0, none⟩ x0).setCell ⟨g, 1, none⟩ x1).setCell ⟨g, 2, none⟩ x2).setCell ⟨g, 3, none⟩ x3).setCell ⟨g, 4, none⟩ x4
theorem set5k_row {w : World} {g : Nat} {T : TypeId} {z0 z1 z2 z3 z4 : Value} (h : w.heap[g]? = some (.cells #[z0, z1, z2, z3, z4] T (0, 0))) (x0 x1 x2 x3 x4 : Value) : (set5k w g x0 x1 x2 x3 x4).heap[g]? = some (.cells #[x0, x1, x2, x3, x4] T (0, 0)) := row_setC (row_setC (row_setC (row_setC (row_setC h))))
theorem set5k_off (w : World) (g k : Nat) (h : k ≠ g) (x0 x1 x2 x3 x4 : Value) : (set5k w g x0 x1 x2 x3 x4).heap[k]? = w.heap[k]? := by
 rw [Below.heap_setCell _ _ _ _ h, Below.heap_setCell _ _ _ _ h, Below.heap_setCell _ _ _ _ h, Below.heap_setCell _ _ _ _ h, Below.heap_setCell _ _ _ _ h]
theorem set5k_below {B g : Nat} {w w' : World} (hb : Below B w w') (hB : B ≤ g) (x0 x1 x2 x3 x4 : Value) : Below B w (set5k w' g x0 x1 x2 x3 x4) := ((((hb.setCell hB _).setCell hB _).setCell hB _).setCell hB _).setCell hB _
def PoR (t : Tr) (ids : List Int) (N : Nat) (e : Ending) (w' : World) : Prop :=
 ((∃ i ∈ ids, i ∉ (ndT t).map Tr.id) ∧ e = .returned (.tuple #[.agg #[.int .i64 0, .string ⟨#[]⟩, .int .i64 0, .int .i64 0, .slice none 0 0], .int .i64 6])) ∨
 ((∀ i ∈ ids, i ∈ (ndT t).map Tr.id) ∧ askL ids t = [] ∧ e = .returned (.tuple #[.agg #[.int .i64 0, .string ⟨#[]⟩, .int .i64 0, .int .i64 0, .slice none 0 0], .int .i64 3])) ∨
 ((∀ i ∈ ids, i ∈ (ndT t).map Tr.id) ∧ askL ids t ≠ [] ∧ ∃ a' c', e = .returned (.tuple #[.agg #[.int .i64 t.id, .string t.nm, .int .i64 t.rep, .int .i64 t.kind, .slice a' (rkL (askL ids t) t.sub).length c'], .int .i64 0]) ∧ LiesN w' (fun b => N ≤ b) a' (rkL (askL ids t) t.sub) ∧ (rkL (askL ids t) t.sub).length ≤ c')
theorem askL_len (t : Tr) (hc : t.cnt ≤ 1000) (q : List Int) : (askL q t).length ≤ 1000 * q.length := by
 unfold askL
 induction q with
 | nil => simp
 | cons z q ih =>
  rw [List.flatMap_cons, List.length_append, List.length_cons]
  cases hf : (ndT t).find? (fun y => y.id == z) with
  | none => simp only [List.length_nil]; omega
  | some x =>
   have h1 := lfI_len (ndT x)
   rw [ndT_len] at h1
   have h2 := (nd_in (SizeOf.sizeOf t + 1) t (Nat.lt_succ_self _) x (List.mem_of_find?_eq_some hf)).1
   simp only
   omega
set_option maxRecDepth 100000 in
set_option maxHeartbeats 6400000 in
theorem projectOf_any (t : Tr) (k0 : Nat) (hd : t.Dp k0) (hk0 : k0 ≤ 100) (hs : t.Sm) (hcn : t.cnt ≤ 1000) (ids : List Int) (ia : Option Addr) (ic : Nat) (hil : ids.length ≤ 900) (a : Option Addr) (c : Nat) (P : Nat → Prop) (W : World) (hl : LiesN W P a t.sub) (hcap : t.sub.length ≤ c) (hli : Lies W ia (i64s ids)) :
    Calls Tryz.prog 13 #[nodeV t a c, .slice ia ids.length ic] W fun e w' => PoR t ids W.heap.size e w' ∧ Below W.heap.size W w' := by
 obtain ⟨iv, hvi, hv0, hv1, hv2⟩ := info_parts Tryz.infoI
 obtain ⟨w0, HW0, HX, HZ, HB⟩ := two_boxesS W #[.int .i64 t.id, .string t.nm, .int .i64 t.rep, .int .i64 t.kind, .slice a t.sub.length c] #[.int .i64 0, .string ⟨#[]⟩, .int .i64 0, .int .i64 0, .slice none 0 0] 24 24
 have HNd : Hid ((fl t).map Pc.t = ndT t) := fl_nd t k0 (by omega) hd hk0
 have HL : Hid (LiesN W P a t.sub) := hl
 have HLi : Hid (Lies W ia (i64s ids)) := hli
 have HSm : Hid t.Sm := hs
 have HD : Hid (t.Dp k0) := hd
 have HFo : Hid (∀ z X, Below W.heap.size W X → Calls Tryz.prog 31 #[.agg #[.int .i64 t.id, .string t.nm, .int .i64 t.rep, .int .i64 t.kind, .slice a t.sub.length c], .int .i64 z] X fun e w' => (∃ (y0 y2 y3 : Int) (y1 : ByteArray) (ya : Option Addr) (yn yc : Nat) (is : Bool), e = .returned (.tuple #[.agg #[.int .i64 y0, .string y1, .int .i64 y2, .int .i64 y3, .slice ya yn yc], .bool is]) ∧ Hid (FdC (fun b => b < W.heap.size) t z w' y0 y2 y3 y1 ya yn is)) ∧ Below X.heap.size X w') := fun z X hX => (findOf_anyN t HSm.out (fun b => b < W.heap.size) a c z X ((HL.out.stay (W' := W) (fun _ _ h => h) (fun _ _ _ => rfl)).keep hX) hcap).mono fun e w' h => ⟨fdC_of HNd.out h.1, h.2⟩
 have HIn : Hid (∀ x ∈ ndT t, x.cnt ≤ 2000 ∧ x.Dp k0 ∧ x.Sm) := fun x hx => (by
  obtain ⟨k1, k2, k3⟩ := nd_in (SizeOf.sizeOf t + 1) t (Nat.lt_succ_self _) x hx
  exact ⟨by omega, k2 k0 HD.out, k3 HSm.out⟩)
 have HAl : Hid (∀ q : List Int, (askL q t).length ≤ 1000 * q.length) := askL_len t hcn
 clear hl hd hs hli
 unfold nodeV
 go_enter Tryz.func13, Tryz.ntmps13
 go_wp2_with fail
 rw [HW0.out]
 have hsz0 := HB.out.size
 have hz0 := lt_of_block HZ.out
 go_loopw [6, 7] (fun y x wr => ∃ i : Nat, i ≤ ids.length ∧ x = .int .i64 i ∧ Hid (wr.ownsRow w0.heap.size 3 1 y (askL (ids.take i) t).length (i64s (askL (ids.take i) t))) ∧ Hid (∀ y ∈ ids.take i, y ∈ (ndT t).map Tr.id) ∧ Hid (Below w0.heap.size w0 wr)) (fun _ x _ => ids.length - (intOf x).toNat)
 case atStart => exact ⟨0, Nat.zero_le _, rfl, by rw [List.take_zero]; exact World.ownsRow_nil _ _ _ _, fun y hy => by simp at hy, Below.refl _ _⟩
 case round =>
  obtain ⟨i, hik, rfl, HRow, HIs, HBr⟩ := hrel
  rename World => wr
  obtain ⟨ra, rc, hrv⟩ := own_slC HRow.out
  subst hrv
  have HBW : Hid (Below W.heap.size W wr) := HB.out.trans (HBr.out.mono HB.out.size)
  have HXr : Hid (wr.heap[W.heap.size]? = some (.cells #[.int .i64 t.id, .string t.nm, .int .i64 t.rep, .int .i64 t.kind, .slice a t.sub.length c] 24 (0, 0))) := blk_keep HBr.out HX.out
  have HZr : Hid (wr.heap[W.heap.size + 1]? = some (.cells #[.int .i64 0, .string ⟨#[]⟩, .int .i64 0, .int .i64 0, .slice none 0 0] 24 (0, 0))) := blk_keep HBr.out HZ.out
  have hszr := HBr.out.size
  have hal := HAl.out (ids.take i)
  have hal2 : (askL (ids.take i) t).length ≤ 900000 := by simp at hal; omega
  obtain ⟨⟨p0, p1, p2, p3, p4⟩, _⟩ := row_five HXr.out
  by_cases hlt : i < ids.length
  · obtain ⟨b1, o1, rfl, e1⟩ := (HLi.out.keep HBW.out) i (by rw [i64s_len]; exact hlt)
    have g1 : wr.cell? ⟨b1, o1 + i, none⟩ = some (.int .i64 ids[i]) := by simpa [i64s] using e1
    clear e1
    have HTk : Hid (ids.take (i + 1) = ids.take i ++ [ids[i]]) := List.take_succ_eq_append_getElem hlt
    have HMem : Hid (ids[i] ∈ ids) := List.getElem_mem hlt
    obtain ⟨z, HZz⟩ := hid_name ids[i]
    rw [HZz.out] at g1 HTk HMem
    have HC : Hid (∀ X, Below wr.heap.size wr X → Calls Tryz.prog 31 #[.agg #[.int .i64 t.id, .string t.nm, .int .i64 t.rep, .int .i64 t.kind, .slice a t.sub.length c], .int .i64 z] X fun e w' => (∃ (y0 y2 y3 : Int) (y1 : ByteArray) (ya : Option Addr) (yn yc : Nat) (is : Bool), e = .returned (.tuple #[.agg #[.int .i64 y0, .string y1, .int .i64 y2, .int .i64 y3, .slice ya yn yc], .bool is]) ∧ Hid (FdC (fun b => b < W.heap.size) t z w' y0 y2 y3 y1 ya yn is)) ∧ Below X.heap.size X w') := fun X hX => HFo.out z X (HBW.out.trans (hX.mono HBW.out.size))
    have bwz : Below wr.heap.size wr wr.drew := (Below.refl _ _).drew
    have bwy : ∀ ob, Below wr.heap.size wr (wr.alloc ob).drew := fun ob => ((Below.refl _ _).alloc (Nat.le_refl _) ob).drew
    have bwx : ∀ ob, Below wr.heap.size wr (wr.drew.alloc ob) := fun ob => bwz.alloc (Nat.le_refl _) ob
    have HFx : Hid (∀ (w2 w3 : World) (y0 y2 y3 : Int) (y1 : ByteArray) (ya : Option Addr) (yn : Nat) (is : Bool), FdC (fun b => b < W.heap.size) t z w2 y0 y2 y3 y1 ya yn is → (∀ b, b < W.heap.size → w3.heap[b]? = w2.heap[b]?) → FdC (fun b => b < W.heap.size) t z w3 y0 y2 y3 y1 ya yn is) := fun w2 w3 y0 y2 y3 y1 ya yn is h hb => h.imp (fun ⟨h1, x, q1, q2, q3, q4, q5, q6, q7⟩ => ⟨h1, x, q1, q2, q3, q4, q5, q6, q7.stay (fun _ h _ => h) (fun b h _ => hb b h)⟩) (fun h => h)
    have hWr : W.heap.size ≤ wr.heap.size := by omega
    have kA : ∀ (ob : Obj) (ad : Addr) (v : Value), wr.cell? ad = some v → (wr.alloc ob).cell? ad = some v := fun ob ad v h => (((Below.refl wr.heap.size wr).alloc (Nat.le_refl _) ob).cell (World.block_lt_of_cell? wr _ h)).trans h
    have p0a := fun ob => kA ob _ _ p0
    have p1a := fun ob => kA ob _ _ p1
    have p2a := fun ob => kA ob _ _ p2
    have p3a := fun ob => kA ob _ _ p3
    have p4a := fun ob => kA ob _ _ p4
    have g1a := fun ob => kA ob _ _ g1
    clear kA
    go_upto_region 5 with fail
    go_cut [8, 9] (fun x y wx => ∃ (g : Nat) (is : Bool) (y0 y2 y3 : Int) (y1 : ByteArray) (ya : Option Addr) (yn yc : Nat), x = .pointer (some ⟨g, 0, none⟩) ∧ y = .bool is ∧ Hid (wx.heap[g]? = some (.cells #[.int .i64 y0, .string y1, .int .i64 y2, .int .i64 y3, .slice ya yn yc] 24 (0, 0))) ∧ Hid (FdC (fun b => b < W.heap.size) t z wx y0 y2 y3 y1 ya yn is) ∧ Hid (Below wr.heap.size wr wx))
    case first =>
     go_region_law (first
      | (go_simp; refine Calls.mono (HC.out _ bwz) ?_; rintro e w2 ⟨⟨y0, y2, y3, y1, ya, yn, yc, is, rfl, HF2⟩, hb2⟩; have hbb : Below wr.heap.size wr w2 := bwz.trans hb2)
      | (go_simp; refine Calls.mono (HC.out _ (bwy _)) ?_; rintro e w2 ⟨⟨y0, y2, y3, y1, ya, yn, yc, is, rfl, HF2⟩, hb2⟩; have hbb : Below wr.heap.size wr w2 := (bwy _).trans (hb2.mono (by simp)); have HZ9 := blk_keep hb2 (heap_alloc_new wr _); obtain ⟨⟨z0, z1, z2, z3, z4⟩, f0, f1, f2, f3, f4⟩ := row_five HZ9)
      | (go_simp; refine Calls.mono (HC.out _ (bwx _)) ?_; rintro e w2 ⟨⟨y0, y2, y3, y1, ya, yn, yc, is, rfl, HF2⟩, hb2⟩; have hbb : Below wr.heap.size wr w2 := (bwx _).trans (hb2.mono (by simp)); have HZ9 := blk_keep hb2 (heap_alloc_new wr.drew _); obtain ⟨⟨z0, z1, z2, z3, z4⟩, f0, f1, f2, f3, f4⟩ := row_five HZ9))
     all_goals (have HBB : Hid _ := hbb; clear hbb; go_wp2; go_meet)
     all_goals refine ⟨_, is, y0, y2, y3, y1, ya, yn, yc, rfl, rfl, hidK ?_, hidK ?_, hidK ?_⟩
     all_goals first
      | with_reducible exact heap_alloc_new w2 _
      | with_reducible exact HBB.out.alloc HBB.out.size _
      | with_reducible exact HFx.out w2 (w2.alloc _) _ _ _ _ _ _ _ HF2.out (fun b hb => heap_alloc_old w2 _ (Nat.lt_of_lt_of_le (Nat.lt_of_lt_of_le hb hWr) HBB.out.size))
      | with_reducible exact set5k_row HZ9 _ _ _ _ _
      | with_reducible exact set5k_below HBB.out (Nat.le_refl _) _ _ _ _ _
      | with_reducible exact HFx.out w2 (set5k w2 wr.heap.size _ _ _ _ _) _ _ _ _ _ _ _ HF2.out (fun b hb => set5k_off w2 _ _ (by omega) _ _ _ _ _)
    case rest =>
     obtain ⟨g, is, y0, y2, y3, y1, ya, yn, yc, rfl, rfl, HG, HF, HBx⟩ := hcut
     rename World => wx
     have HBWx : Hid (Below W.heap.size W wx) := HBW.out.trans (HBx.out.mono HBW.out.size)
     have HZx : Hid (wx.heap[W.heap.size + 1]? = some (.cells #[.int .i64 0, .string ⟨#[]⟩, .int .i64 0, .int .i64 0, .slice none 0 0] 24 (0, 0))) := blk_keep HBx.out HZr.out
     clear p0 p1 p2 p3 p4
     rcases HF.out with ⟨rfl, x, hfx, e0, e1, e2, e3, e4, hyl⟩ | ⟨rfl, hno⟩
     · subst e0 e1 e2 e3 e4
       have HxI : Hid _ := HIn.out x (List.mem_of_find?_eq_some hfx)
       have HUo : Hid _ := underOf_any x k0 HxI.out.2.1 hk0 HxI.out.1 HxI.out.2.2 _ ya yc wx hyl
       have HAs : Hid (askL (ids.take (i + 1)) t = askL (ids.take i) t ++ lfI (ndT x)) := (by show _ = _; rw [HTk.out]; exact askL_snoc _ _ _ _ hfx)
       have HYes : Hid (z ∈ (ndT t).map Tr.id) := List.mem_map.2 ⟨x, List.mem_of_find?_eq_some hfx, by have := List.find?_some hfx; simpa using this⟩
       have hlx : (lfI (ndT x)).length ≤ 2000 := by
        have h1 := lfI_len (ndT x)
        rw [ndT_len] at h1
        have := HxI.out.1
        omega
       have HI5 : Hid (∀ y ∈ ids.take (i + 1), y ∈ (ndT t).map Tr.id) := fun y hy => (by
        rw [HTk.out] at hy
        rcases List.mem_append.1 hy with h | h
        · exact HIs.out y h
        · rw [List.mem_singleton.1 h]; exact HYes.out)
       obtain ⟨⟨q0, q1, q2, q3, q4⟩, _⟩ := row_five HG.out
       clear hfx hyl
       unfold nodeV at HUo
       go_wp2_with fail
       refine Calls.mono HUo.out ?_
       rintro e w3 ⟨⟨lv, rfl, hown⟩, hb3⟩
       obtain ⟨ua, uc, huv, hul⟩ := lies_own hown
       rw [i64s_len] at huv
       subst huv
       have HUl : Hid (Lies w3 ua (i64s (lfI (ndT x)))) := hul
       have HB3 : Hid (Below wr.heap.size wr w3) := HBx.out.trans (hb3.mono HBx.out.size)
       have hs3 := HB3.out.size
       have HR3 : Hid (w3.ownsRow w0.heap.size 3 1 (.slice ra (askL (ids.take i) t).length rc) (askL (ids.take i) t).length (i64s (askL (ids.take i) t))) := ow_kept HRow.out HB3.out
       have HB03 : Hid (Below w0.heap.size w0 w3) := HBr.out.trans (HB3.out.mono HBr.out.size)
       have HEnd : Hid (∀ (l2 : Value) (w4 : World), w4.ownsRow w0.heap.size 3 1 l2 ((askL (ids.take i) t).length + (lfI (ndT x)).length) (i64s (askL (ids.take i) t) ++ i64s (lfI (ndT x))) → w3.grownBy w4 (Value.slice ra (askL (ids.take i) t).length rc).ownBlock → w4.ownsRow w0.heap.size 3 1 l2 (askL (ids.take (i + 1)) t).length (i64s (askL (ids.take (i + 1)) t)) ∧ Below w0.heap.size w0 w4) := fun l2 w4 h1 h2 => ⟨by rw [HAs.out, i64s_app, List.length_append]; exact h1, HB03.out.grown h2 HB03.out.size (fun k hk => (HR3.out.lt k hk).1)⟩
       clear hown hul hb3
       go_wp2_with (at_builtin; (refine wpList_append_any _ rfl _ _ 25 rfl w0.heap.size 3 iv (.int .i64 0) 1 8 Tryz.underlying25 hvi hv0 hv1 hv2 rfl (by decide) _ _ _ rfl HR3.out ua _ uc (i64s (lfI (ndT x))) rfl (by rw [i64s_len, Nat.mul_one]) (news_i HUl.out) (one_i _) (by unfold maxLen; omega) (by omega) HB03.out.size ?_); intro l2 w4 hown4 hgr4 _; have HF2 : Hid _ := HEnd.out _ _ hown4 hgr4; obtain ⟨a9, c9, rfl⟩ := own_slC hown4)
       go_roundw
       case rel => exact ⟨i + 1, by omega, by go_num, HF2.out.1, HI5, HF2.out.2⟩
       case measure => simp [intOf]; omega
     · have HNo : Hid (∃ i ∈ ids, i ∉ (ndT t).map Tr.id) := ⟨z, HMem.out, hno⟩
       obtain ⟨⟨z0, z1, z2, z3, z4⟩, f0, f1, f2, f3, f4⟩ := row_five HZx.out
       have HRw : Hid _ := row_setC (j := 4) (v := .slice none 0 0) (row_setC (j := 3) (v := .int .i64 0) (row_setC (j := 2) (v := .int .i64 0) (row_setC (j := 1) (v := .string ⟨#[]⟩) (row_setC (j := 0) (v := .int .i64 0) HZx.out))))
       clear hno
       go_wp2
       exact bodyPost_ret (v := .tuple #[.agg #[.int .i64 0, .string ⟨#[]⟩, .int .i64 0, .int .i64 0, .slice none 0 0], .int .i64 6]) (results_cS Tryz.results13 _ _ (W.heap.size + 1) 24 #[.int .i64 0, .string ⟨#[]⟩, .int .i64 0, .int .i64 0, .slice none 0 0] (0, 0) _ (.int .i64 6) rfl rfl HRw.out Tryz.underlying24 rfl (by kernel_rfl)) rfl ⟨.inl ⟨HNo.out, rfl⟩, ((((HBWx.out.setCell (by simp) _).setCell (by simp) _).setCell (by simp) _).setCell (by simp) _).setCell (by simp) _⟩
  · obtain rfl : i = ids.length := by omega
    rw [List.take_length] at HRow HIs hal2
    obtain ⟨⟨z0, z1, z2, z3, z4⟩, f0, f1, f2, f3, f4⟩ := row_five HZr.out
    obtain ⟨Q, HQ⟩ := hid_name (askL ids t)
    rw [List.take_length, HQ.out]
    rw [HQ.out] at HRow hal2
    by_cases hq : Q = []
    · have HE : Hid (askL ids t = []) := HQ.out.trans hq
      have qu : ((Q.length : Int) == 0) = true := by simp [hq]
      have HRw : Hid _ := row_setC (j := 4) (v := .slice none 0 0) (row_setC (j := 3) (v := .int .i64 0) (row_setC (j := 2) (v := .int .i64 0) (row_setC (j := 1) (v := .string ⟨#[]⟩) (row_setC (j := 0) (v := .int .i64 0) HZr.out))))
      obtain ⟨un, HUn⟩ := hid_name Q.length
      rw [HUn.out] at qu ⊢
      clear hq
      go_wp2
      exact bodyPost_ret (v := .tuple #[.agg #[.int .i64 0, .string ⟨#[]⟩, .int .i64 0, .int .i64 0, .slice none 0 0], .int .i64 3]) (results_cS Tryz.results13 _ _ (W.heap.size + 1) 24 #[.int .i64 0, .string ⟨#[]⟩, .int .i64 0, .int .i64 0, .slice none 0 0] (0, 0) _ (.int .i64 3) rfl rfl HRw.out Tryz.underlying24 rfl (by kernel_rfl)) rfl ⟨.inr (.inl ⟨HIs.out, HE.out, rfl⟩), ((((HBW.out.setCell (by simp) _).setCell (by simp) _).setCell (by simp) _).setCell (by simp) _).setCell (by simp) _⟩
    · have HE : Hid (askL ids t ≠ []) := (by show _ ≠ _; rw [HQ.out]; exact hq)
      have hq0 : 0 < Q.length := List.length_pos_iff.2 hq
      have qu : ((Q.length : Int) == 0) = false := by simp; omega
      obtain ⟨qa, qc, hqv, hql⟩ := lies_own HRow.out
      rw [i64s_len] at hqv
      injection hqv with hq1 hq2 hq3
      subst hq1
      have HKp : Hid _ := keepR_any Q ra rc (by omega) (SizeOf.sizeOf t + 1) t (Nat.lt_succ_self _) HSm.out k0 HD.out hk0 (by omega) P a c wr (HL.out.keep HBW.out) hql
      clear hq hql hq2 hq3
      unfold nodeV at HKp
      go_wp2_with fail
      refine Calls.mono HKp.out ?_
      rintro e w3 ⟨⟨a3, c3, rfl, hl3, hc3⟩, hb3⟩
      have HB3 : Hid (Below W.heap.size W w3) := HBW.out.trans (hb3.mono HBW.out.size)
      have HZ3 : Hid (w3.heap[W.heap.size + 1]? = some (.cells #[.int .i64 0, .string ⟨#[]⟩, .int .i64 0, .int .i64 0, .slice none 0 0] 24 (0, 0))) := blk_keep hb3 HZr.out
      have hz3 := lt_of_block HZr.out
      have HL3 : Hid (LiesN w3 (fun b => wr.heap.size ≤ b) a3 (rkL Q t.sub)) := hl3
      clear hl3 hb3 z0 z1 z2 z3 z4 f0 f1 f2 f3 f4
      obtain ⟨⟨z0, z1, z2, z3, z4⟩, f0, f1, f2, f3, f4⟩ := row_five HZ3.out
      obtain ⟨us, HUs⟩ := hid_name (rkL Q t.sub)
      rw [HUs.out] at HL3 hc3 ⊢
      have HRw : Hid _ := row_setC (j := 4) (v := .slice a3 us.length c3) (row_setC (j := 3) (v := .int .i64 t.kind) (row_setC (j := 2) (v := .int .i64 t.rep) (row_setC (j := 1) (v := .string t.nm) (row_setC (j := 0) (v := .int .i64 t.id) HZ3.out))))
      go_wp2
      refine bodyPost_ret (v := .tuple #[.agg #[.int .i64 t.id, .string t.nm, .int .i64 t.rep, .int .i64 t.kind, .slice a3 us.length c3], .int .i64 0]) (results_cS Tryz.results13 _ _ (W.heap.size + 1) 24 #[.int .i64 t.id, .string t.nm, .int .i64 t.rep, .int .i64 t.kind, .slice a3 us.length c3] (0, 0) _ (.int .i64 0) rfl rfl HRw.out Tryz.underlying24 rfl (by kernel_rfl)) rfl ⟨.inr (.inr ⟨HIs.out, HE.out, a3, c3, ?_, ?_, ?_⟩), ?_⟩
      · rw [HQ.out, HUs.out]
      · rw [HQ.out, HUs.out]
        exact HL3.out.stay (fun b h _ => by omega) (fun b h _ => by
         have h2 : b ≠ W.heap.size + 1 := by omega
         rw [Below.heap_setCell _ _ _ _ h2, Below.heap_setCell _ _ _ _ h2, Below.heap_setCell _ _ _ _ h2, Below.heap_setCell _ _ _ _ h2, Below.heap_setCell _ _ _ _ h2])
      · rw [HQ.out, HUs.out]
        exact hc3
      · exact ((((HB3.out.setCell (by simp) _).setCell (by simp) _).setCell (by simp) _).setCell (by simp) _).setCell (by simp) _
end Go.Proofs.YteonbmaokphleaaGreatDoor
