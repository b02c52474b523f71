/-
  The reference's NextOf: exact.
-/
import Derived.Test.YtiiehnjgljadbaaDoorPAutoQ
import Derived.Deep.RegionHeld3
import Derived.BigQuiet
namespace Go.Proofs.YtiiehnjgljadbaaDoor
open Go.RowKit
theorem own_one (w : World) (B T : Nat) (x : Value) (hB : B ≤ w.heap.size) : (w.alloc (.cells #[x] T)).ownsRow B T 1 (.slice (some ⟨w.heap.size, 0, none⟩) 1 1) 1 [x] :=
  ⟨rfl, Or.inr ⟨w.heap.size, 1, #[x], rfl, hB, heap_alloc_new w _, Nat.le_refl _, by unfold maxLen; omega, rfl, rfl⟩⟩
theorem nxtP_one (L : List (List Int)) (k : Nat) : nxtP L k 1 = [((k + 1 : Nat) : Int)] := by simp [nxtP, nxtK]
/-- The leaves that LeavesOf answered, and their lists. -/
def LsAt (t : Tr) (a : Option Addr) (c : Nat) (w1 : World) (va : Option Addr) (L : List (List Int)) : Prop :=
  ∀ j (hj : j < L.length), ∃ g fi fk pa pn pc, ∃ fm fd : Nat, va = some ⟨g, 0, none⟩ ∧ ∀ X, Below w1.heap.size w1 X → (X.cell? ⟨g, j * 5, none⟩ = some (.int .i64 fi) ∧ X.cell? ⟨g, j * 5 + 1, none⟩ = some (.int .i64 fk) ∧ X.cell? ⟨g, j * 5 + 2, none⟩ = some (.int .i64 (fm : Nat)) ∧ X.cell? ⟨g, j * 5 + 3, none⟩ = some (.int .i64 (fd : Nat)) ∧ X.cell? ⟨g, j * 5 + 4, none⟩ = some (.slice pa pn pc)) ∧ Calls Tryd.prog 19 #[.agg #[.int .i64 t.id, .string t.nm, .int .i64 t.rep, .int .i64 t.kind, .slice a t.sub.length c], .agg #[.int .i64 fi, .int .i64 fk, .int .i64 (fm : Nat), .int .i64 (fd : Nat), .slice pa pn pc]] X fun e w' => (∃ lv, e = .returned lv ∧ w'.ownsRow X.heap.size 3 1 lv L[j].length (i64s L[j])) ∧ Below X.heap.size X w'
set_option maxRecDepth 100000 in
set_option maxHeartbeats 6400000 in
theorem nextOfR_of (t : Tr) (a : Option Addr) (c : Nat) (W : World) (L : List (List Int)) (hm : L.length ≤ 1000) (hm2 : ∀ j (h : j < L.length), L[j].length ≤ 900)
    (hlo : ∀ w, Below W.heap.size W w → Calls Tryd.prog 18 #[.agg #[.int .i64 t.id, .string t.nm, .int .i64 t.rep, .int .i64 t.kind, .slice a t.sub.length c]] w fun e w' => (∃ va vc, e = .returned (.slice va L.length vc) ∧ LsAt t a c w' va L) ∧ Below w.heap.size w w') :
    Calls Tryd.prog 10 #[.agg #[.int .i64 t.id, .string t.nm, .int .i64 t.rep, .int .i64 t.kind, .slice a t.sub.length c]] W fun e w' => (∃ la lc, e = .returned (.slice la L.length lc) ∧ LstR w' la ((List.range L.length).map (nxtR L))) ∧ Below W.heap.size W w' := by
  obtain ⟨iv, hvi, hv0, hv1, hv2⟩ := info_parts Tryd.infoI
  obtain ⟨iu, hui, hu0, hu1, hu2⟩ := info_parts Tryd.infoIs
  obtain ⟨w0, HW0, HX, HB⟩ := one_box W #[.int .i64 t.id, .string t.nm, .int .i64 t.rep, .int .i64 t.kind, .slice a t.sub.length c] 24
  have HLo : Hid _ := hlo w0 HB.out
  have HM2 : Hid (∀ j (h : j < L.length), L[j].length ≤ 900) := hm2
  clear hlo hm2
  obtain ⟨⟨p0, p1, p2, p3, p4⟩, _⟩ := row_five HX.out
  go_enter Tryd.func10, Tryd.ntmps10
  go_wp2_with fail
  rw [HW0.out]
  refine Calls.mono HLo.out ?_
  rintro e w1 ⟨⟨va, vc, rfl, hls⟩, hb1⟩
  have HLs : Hid (LsAt t a c w1 va L) := hls
  have HB1 : Hid (Below W.heap.size W w1) := HB.out.trans (hb1.mono HB.out.size)
  have HX1 : Hid (w1.heap[W.heap.size]? = some (.cells #[.int .i64 t.id, .string t.nm, .int .i64 t.rep, .int .i64 t.kind, .slice a t.sub.length c] 24 (0, 0))) := blk_keep hb1 HX.out
  clear hls hb1 HLo p0 p1 p2 p3 p4
  obtain ⟨⟨p0, p1, p2, p3, p4⟩, _⟩ := row_five HX1.out
  have HP : Hid (∀ X, Below w1.heap.size w1 X → X.cell? ⟨W.heap.size, 0, none⟩ = some (.int .i64 t.id) ∧ X.cell? ⟨W.heap.size, 1, none⟩ = some (.string t.nm) ∧ X.cell? ⟨W.heap.size, 2, none⟩ = some (.int .i64 t.rep) ∧ X.cell? ⟨W.heap.size, 3, none⟩ = some (.int .i64 t.kind) ∧ X.cell? ⟨W.heap.size, 4, none⟩ = some (.slice a t.sub.length c)) := fun X hX => (by
    have k : ∀ (ad : Addr) (v : Value), w1.cell? ad = some v → X.cell? ad = some v := fun ad v h => (hX.cell (World.block_lt_of_cell? w1 _ h)).trans h
    exact ⟨k _ _ p0, k _ _ p1, k _ _ p2, k _ _ p3, k _ _ p4⟩)
  clear p0 p1 p2 p3 p4
  go_wp2_with fail
  go_loopw [4, 5] (fun y x wr => ∃ k : Nat, k ≤ L.length ∧ x = .int .i64 k ∧ (∃ svs, Hid (RowO w1.heap.size wr y ((List.range k).map (nxtR L)) svs)) ∧ Hid (Below w1.heap.size w1 wr)) (fun _ x _ => L.length - (intOf x).toNat)
  case atStart => exact ⟨0, Nat.zero_le _, rfl, ⟨[], ⟨World.ownsRow_nil _ _ _ _, rfl, fun j hj => absurd hj (by simp)⟩⟩, Below.refl _ _⟩
  case round =>
    obtain ⟨k, hik, rfl, ⟨svs, HR⟩, HBr⟩ := hrel
    rename World => wk
    obtain ⟨la, lc, hy, HLst⟩ := HR.out.rl
    simp only [List.length_map, List.length_range] at hy
    subst hy
    have HBW : Hid (Below W.heap.size W wk) := HB1.out.trans (HBr.out.mono HB1.out.size)
    by_cases hlt : k < L.length
    · clear HLst
      have hxs9 := HM2.out k hlt
      have HGD : Hid (L.getD k [] = L[k]) := (by show _ = _; simp [List.getD, hlt])
      obtain ⟨xs, HXs⟩ := hid_name L[k]
      rw [HXs.out] at hxs9 HGD
      go_wp2_with fail
      obtain ⟨g, fi, fk, pa, pn, pc, fm, fd, rfl, hat⟩ := HLs.out k hlt
      obtain ⟨d0, d1, d2, d3, d4⟩ := (hat wk HBr.out).1
      obtain ⟨n0, n1, n2, n3, n4⟩ := HP.out wk HBr.out
      have HC : Hid _ := (hat wk.drew HBr.out.drew).2
      rw [HXs.out] at HC
      clear hat
      have b10 : Below wk.heap.size wk wk := Below.refl _ _
      have HN : Hid (∀ X, Below wk.heap.size wk X → (X.cell? ⟨W.heap.size, 0, none⟩ = some (.int .i64 t.id) ∧ X.cell? ⟨W.heap.size, 1, none⟩ = some (.string t.nm) ∧ X.cell? ⟨W.heap.size, 2, none⟩ = some (.int .i64 t.rep) ∧ X.cell? ⟨W.heap.size, 3, none⟩ = some (.int .i64 t.kind) ∧ X.cell? ⟨W.heap.size, 4, none⟩ = some (.slice a t.sub.length c)) ∧ (X.cell? ⟨g, k * 5, none⟩ = some (.int .i64 fi) ∧ X.cell? ⟨g, k * 5 + 1, none⟩ = some (.int .i64 fk) ∧ X.cell? ⟨g, k * 5 + 2, none⟩ = some (.int .i64 (fm : Nat)) ∧ X.cell? ⟨g, k * 5 + 3, none⟩ = some (.int .i64 (fd : Nat)) ∧ X.cell? ⟨g, k * 5 + 4, none⟩ = some (.slice pa pn pc)) ∧ Below wk.heap.size wk X) := fun X hX => (by
        have k9 : ∀ (ad : Addr) (v : Value), wk.cell? ad = some v → X.cell? ad = some v := fun ad v h => (hX.cell (World.block_lt_of_cell? wk _ h)).trans h
        exact ⟨⟨k9 _ _ n0, k9 _ _ n1, k9 _ _ n2, k9 _ _ n3, k9 _ _ n4⟩, ⟨k9 _ _ d0, k9 _ _ d1, k9 _ _ d2, k9 _ _ d3, k9 _ _ d4⟩, hX⟩)
      go_upto_region 6 with fail
      go_region_held3 (fun X => (X.cell? ⟨W.heap.size, 0, none⟩ = some (.int .i64 t.id) ∧ X.cell? ⟨W.heap.size, 1, none⟩ = some (.string t.nm) ∧ X.cell? ⟨W.heap.size, 2, none⟩ = some (.int .i64 t.rep) ∧ X.cell? ⟨W.heap.size, 3, none⟩ = some (.int .i64 t.kind) ∧ X.cell? ⟨W.heap.size, 4, none⟩ = some (.slice a t.sub.length c)) ∧ (X.cell? ⟨g, k * 5, none⟩ = some (.int .i64 fi) ∧ X.cell? ⟨g, k * 5 + 1, none⟩ = some (.int .i64 fk) ∧ X.cell? ⟨g, k * 5 + 2, none⟩ = some (.int .i64 (fm : Nat)) ∧ X.cell? ⟨g, k * 5 + 3, none⟩ = some (.int .i64 (fd : Nat)) ∧ X.cell? ⟨g, k * 5 + 4, none⟩ = some (.slice pa pn pc)) ∧ Below wk.heap.size wk X) (first | (with_reducible refine HN.out _ ?_; repeat' (first | with_reducible assumption | with_reducible exact b10.drew | with_reducible exact b10))) (first | (go_at_call 19; refine Calls.mono HC.out ?_; rintro e w7 ⟨⟨lv, rfl, hown7⟩, hb7⟩; have hbb : Below wk.heap.size wk w7 := (Below.refl _ _).drew.trans hb7))
      all_goals
        obtain ⟨oa, oc, rfl, hli⟩ := LiI.own hown7
        have HLi : Hid (LiI w7 oa xs) := hli
        have HB7 : Hid (Below wk.heap.size wk w7) := hbb
        have HBw7 : Hid (Below w1.heap.size w1 w7) := HBr.out.trans (hbb.mono HBr.out.size)
        clear hbb hli hown7 HN HC n0 n1 n2 n3 n4 d0 d1 d2 d3 d4 b10
        go_upto_if 30 with fail
        go_cut [7] (fun x wx => x = .int .i64 ((cmnK L k : Nat) : Int) ∧ Hid (Below w7.heap.size w7 wx))
        case first =>
          by_cases hk1 : k + 1 < L.length
          · have q1 : decide ((k : Int) + 1 < (L.length : Int)) = true := by simp; omega
            obtain ⟨g', fi, fk, pa, pn, pc, fm, fd, eg, hat⟩ := HLs.out (k + 1) hk1
            obtain rfl : g = g' := (by injection eg with e; injection e)
            obtain ⟨d0, d1, d2, d3, d4⟩ := (hat w7 HBw7.out).1
            obtain ⟨n0, n1, n2, n3, n4⟩ := HP.out w7 HBw7.out
            have HC : Hid _ := (hat w7.drew HBw7.out.drew).2
            have hys9 := HM2.out (k + 1) hk1
            have HE : Hid (cmnK L k = cmnL L[k] L[k + 1]) := (by
              show _ = _
              rw [cmnK, if_pos hk1]
              simp [List.getD, hlt, hk1])
            obtain ⟨ys, HYs⟩ := hid_name L[k + 1]
            rw [HYs.out] at HC HE hys9
            rw [HXs.out] at HE
            obtain ⟨k1, HK1⟩ := hid_name (k + 1)
            have qk : (k : Int) + 1 = (k1 : Int) := by rw [← HK1.out]; simp
            have hk2 : k1 < L.length := by rw [← HK1.out]; exact hk1
            have qk2 : ((k : Int) + 1).toNat = k1 := by omega
            have qw1 : IntKind.i64.wrap (k1 : Int) = (k1 : Int) := by rw [IntKind.wrap_i64]; omega
            have qb3 : (k : Int) + 1 < (L.length : Int) := by omega
            rw [HK1.out] at d0 d1 d2 d3 d4
            clear hat eg
            go_wp2_with fail
            have b10 : Below w7.heap.size w7 w7 := Below.refl _ _
            have HN : Hid (∀ X, Below w7.heap.size w7 X → (X.cell? ⟨W.heap.size, 0, none⟩ = some (.int .i64 t.id) ∧ X.cell? ⟨W.heap.size, 1, none⟩ = some (.string t.nm) ∧ X.cell? ⟨W.heap.size, 2, none⟩ = some (.int .i64 t.rep) ∧ X.cell? ⟨W.heap.size, 3, none⟩ = some (.int .i64 t.kind) ∧ X.cell? ⟨W.heap.size, 4, none⟩ = some (.slice a t.sub.length c)) ∧ (X.cell? ⟨g, k1 * 5, none⟩ = some (.int .i64 fi) ∧ X.cell? ⟨g, k1 * 5 + 1, none⟩ = some (.int .i64 fk) ∧ X.cell? ⟨g, k1 * 5 + 2, none⟩ = some (.int .i64 (fm : Nat)) ∧ X.cell? ⟨g, k1 * 5 + 3, none⟩ = some (.int .i64 (fd : Nat)) ∧ X.cell? ⟨g, k1 * 5 + 4, none⟩ = some (.slice pa pn pc)) ∧ Below w7.heap.size w7 X) := fun X hX => (by
              have k9 : ∀ (ad : Addr) (v : Value), w7.cell? ad = some v → X.cell? ad = some v := fun ad v h => (hX.cell (World.block_lt_of_cell? w7 _ h)).trans h
              exact ⟨⟨k9 _ _ n0, k9 _ _ n1, k9 _ _ n2, k9 _ _ n3, k9 _ _ n4⟩, ⟨k9 _ _ d0, k9 _ _ d1, k9 _ _ d2, k9 _ _ d3, k9 _ _ d4⟩, hX⟩)
            go_upto_region 9 with fail
            go_region_held3 (fun X => (X.cell? ⟨W.heap.size, 0, none⟩ = some (.int .i64 t.id) ∧ X.cell? ⟨W.heap.size, 1, none⟩ = some (.string t.nm) ∧ X.cell? ⟨W.heap.size, 2, none⟩ = some (.int .i64 t.rep) ∧ X.cell? ⟨W.heap.size, 3, none⟩ = some (.int .i64 t.kind) ∧ X.cell? ⟨W.heap.size, 4, none⟩ = some (.slice a t.sub.length c)) ∧ (X.cell? ⟨g, k1 * 5, none⟩ = some (.int .i64 fi) ∧ X.cell? ⟨g, k1 * 5 + 1, none⟩ = some (.int .i64 fk) ∧ X.cell? ⟨g, k1 * 5 + 2, none⟩ = some (.int .i64 (fm : Nat)) ∧ X.cell? ⟨g, k1 * 5 + 3, none⟩ = some (.int .i64 (fd : Nat)) ∧ X.cell? ⟨g, k1 * 5 + 4, none⟩ = some (.slice pa pn pc)) ∧ Below w7.heap.size w7 X) (first | (with_reducible refine HN.out _ ?_; repeat' (first | with_reducible assumption | with_reducible exact b10.drew | with_reducible exact b10))) (first | (go_at_call 19; refine Calls.mono HC.out ?_; rintro e w8 ⟨⟨lv, rfl, hown7⟩, hb7⟩; have hbb : Below w7.heap.size w7 w8 := (Below.refl _ _).drew.trans hb7))
            all_goals
              obtain ⟨ya, yc, rfl, hli⟩ := LiI.own hown7
              have HLi2 : Hid (LiI w8 ya ys) := hli
              have HLi1 : Hid (LiI w8 oa xs) := HLi.out.keep hbb
              have HB8 : Hid (Below w7.heap.size w7 w8) := hbb
              clear hbb hli hown7 HN HC n0 n1 n2 n3 n4 d0 d1 d2 d3 d4 b10
              have HCl : Hid _ := cmnL_le xs ys
              go_wp2_with fail
              go_loopw [7] (fun x wr => ∃ m : Nat, m ≤ cmnL xs ys ∧ x = .int .i64 m ∧ Hid (Below w8.heap.size w8 wr)) (fun x _ => cmnL xs ys - (intOf x).toNat)
              case atStart => exact ⟨0, Nat.zero_le _, rfl, Below.refl _ _⟩
              case round =>
                obtain ⟨m, hmc, rfl, HBm⟩ := hrel
                rename World => wm
                have hcl := HCl.out
                have HAt : Hid _ := cmnL_at xs ys m hmc
                have HBE : Hid (Below w7.heap.size w7 wm.drew) := HB8.out.trans (HBm.out.drew.mono HB8.out.size)
                by_cases hmx : m < xs.length
                · have qx : decide ((m : Int) < (xs.length : Int)) = true := by simp; omega
                  by_cases hmy : m < ys.length
                  · have qy : decide ((m : Int) < (ys.length : Int)) = true := by simp; omega
                    obtain ⟨b1, o1, rfl, e1⟩ := (HLi1.out.1.keep HBm.out) m (by rw [i64s_len]; exact hmx)
                    obtain ⟨b2, o2, rfl, e2⟩ := (HLi2.out.1.keep HBm.out) m (by rw [i64s_len]; exact hmy)
                    have g1 : wm.cell? ⟨b1, o1 + m, none⟩ = some (.int .i64 xs[m]) := by simpa [i64s] using e1
                    have g2 : wm.cell? ⟨b2, o2 + m, none⟩ = some (.int .i64 ys[m]) := by simpa [i64s] using e2
                    clear e1 e2
                    obtain ⟨x, HXx⟩ := hid_name xs[m]
                    obtain ⟨y, HYy⟩ := hid_name ys[m]
                    rw [HXx.out] at g1
                    rw [HYy.out] at g2
                    by_cases he : x = y
                    · have q3 : (x == y) = true := by simp [he]
                      have HNx : Hid (m + 1 ≤ cmnL xs ys) := (by
                        have h := HAt.out
                        have hne : ¬ m = cmnL xs ys := fun e => (h.1 e) ⟨hmx, hmy, by rw [List.getElem?_eq_getElem hmx, List.getElem?_eq_getElem hmy, HXx.out, HYy.out, he]⟩
                        show _ ≤ _
                        omega)
                      clear he hcl
                      go_upto_region 10 with fail
                      go_quiet (fail)
                      go_wp2
                      go_roundw
                      case rel => exact ⟨m + 1, HNx.out, by go_num, below_dN HBm.out _⟩
                      case measure => have := HNx.out; simp [intOf]; omega
                    · have q3 : (x == y) = false := by simp [he]
                      have HM : Hid (m = cmnL xs ys) := (HAt.out.2 fun h => he (by
                        have h2 := h.2.2
                        rw [List.getElem?_eq_getElem hmx, List.getElem?_eq_getElem hmy, HXx.out, HYy.out] at h2
                        exact Option.some.inj h2))
                      clear he hcl
                      go_upto_region 10 with fail
                      go_quiet (fail)
                      go_wp2
                      go_meet
                      exact ⟨by rw [HE.out, ← HM.out], HB8.out.trans (below_dN HBm.out _ |>.mono HB8.out.size)⟩
                  · have qy : decide ((m : Int) < (ys.length : Int)) = false := by simp; omega
                    have HM : Hid (m = cmnL xs ys) := HAt.out.2 fun h => hmy h.2.1
                    clear hcl
                    go_upto_region 10 with fail
                    go_quiet (fail)
                    go_wp2
                    go_meet
                    exact ⟨by rw [HE.out, ← HM.out], HB8.out.trans (below_dN HBm.out _ |>.mono HB8.out.size)⟩
                · have qx : decide ((m : Int) < (xs.length : Int)) = false := by simp; omega
                  have HM : Hid (m = cmnL xs ys) := HAt.out.2 fun h => hmx h.1
                  clear hcl
                  go_upto_region 10 with fail
                  go_quiet (fail)
                  go_wp2
                  go_meet
                  exact ⟨by rw [HE.out, ← HM.out], HB8.out.trans (below_dN HBm.out _ |>.mono HB8.out.size)⟩
          · have q1 : decide ((k : Int) + 1 < (L.length : Int)) = false := by simp; omega
            have HE : Hid (cmnK L k = 0) := (by show _ = _; rw [cmnK, if_neg hk1])
            go_wp2
            go_meet
            exact ⟨by rw [HE.out]; rfl, Below.refl _ _⟩
        case rest =>
          obtain ⟨rfl, HBc⟩ := hcut
          rename World => w9
          have HBw9 : Hid (Below w1.heap.size w1 w9) := HBw7.out.trans (HBc.out.mono HBw7.out.size)
          have HLi9 : Hid (LiI w9 oa xs) := HLi.out.keep HBc.out
          obtain ⟨cm, HCm⟩ := hid_name (cmnK L k)
          have hcm : cm ≤ 1000 := by
            rw [← HCm.out]; unfold cmnK; split
            · have h9 := (cmnL_le (L.getD k []) (L.getD (k + 1) [])).1; rw [HGD.out] at h9 ⊢; omega
            · omega
          rw [HCm.out]
          go_wp2_with fail
          go_loopw [9, 10] (fun y x wr => ∃ r : Nat, 1 ≤ r ∧ r ≤ xs.length + 1 ∧ x = .int .i64 r ∧ Hid (wr.ownsRow w9.heap.size 3 1 y r (i64s (nxtP L k r))) ∧ Hid (Below w9.heap.size w9 wr)) (fun _ x _ => xs.length + 1 - (intOf x).toNat)
          case atStart => exact ⟨1, Nat.le_refl _, by omega, rfl, by rw [nxtP_one]; exact own_one w9 _ _ _ (Nat.le_refl _), (Below.refl _ _).alloc (Nat.le_refl _) _⟩
          case round =>
            obtain ⟨r, hr1, hr2, rfl, HRow, HBq⟩ := hrel
            rename World => wr
            obtain ⟨ra, rc, hrv⟩ := own_slC HRow.out
            subst hrv
            have HBwr : Hid (Below w1.heap.size w1 wr) := HBw9.out.trans (HBq.out.mono HBw9.out.size)
            by_cases hrl : r ≤ xs.length
            · have q1 : decide ((r : Int) ≤ (xs.length : Int)) = true := by simp; omega
              go_upto_if 74 with fail
              go_cut [11] (fun x wx => x = .int .i64 ((nxtK L k r : Nat) : Int) ∧ Hid (Below wr.heap.size wr wx))
              case first =>
                by_cases hrc : r ≤ cm
                · have q2 : decide ((cm : Int) < (r : Int)) = false := by simp; omega
                  have q3 : decide (cm < r) = false := by simp; omega
                  have HE : Hid (nxtK L k r = k + 1) := (by show _ = _; rw [nxtK, HCm.out, if_pos hrc])
                  go_wp2
                  go_meet
                  exact ⟨by rw [HE.out]; simp, Below.refl _ _⟩
                · have q2 : decide ((cm : Int) < (r : Int)) = true := by simp; omega
                  have q3 : decide (cm < r) = true := by simp; omega
                  have hr3 : r - 1 < xs.length := by omega
                  have HE : Hid (nxtK L k r = fstI L xs[r - 1]) := (by
                    show _ = _
                    rw [nxtK, HCm.out, if_neg hrc, HGD.out]
                    simp [List.getD, hr3])
                  have HFl : Hid (fstI L xs[r - 1] < L.length) := fstI_lt L _ ⟨xs, by rw [← HXs.out]; exact List.getElem_mem hlt, List.getElem_mem hr3⟩
                  obtain ⟨b1, o1, rfl, e1⟩ := (HLi9.out.1.keep HBq.out) (r - 1) (by rw [i64s_len]; exact hr3)
                  have g1 : wr.cell? ⟨b1, o1 + (r - 1), none⟩ = some (.int .i64 xs[r - 1]) := by simpa [i64s] using e1
                  clear e1
                  obtain ⟨n, HNn⟩ := hid_name xs[r - 1]
                  rw [HNn.out] at HE HFl g1
                  obtain ⟨r1, HR1⟩ := hid_name (r - 1)
                  have qi : (r : Int) - 1 = (r1 : Int) := by rw [← HR1.out]; omega
                  rw [HR1.out] at g1 hr3
                  have qi2 : ((r : Int) - 1).toNat = r1 := by omega
                  have qw1 : IntKind.i64.wrap (r1 : Int) = (r1 : Int) := by rw [IntKind.wrap_i64]; omega
                  first | rw [q2] | rw [q3]
                  clear q2 q3
                  go_wp2_with fail
                  go_loopw [11] (fun x wr' => ∃ j : Nat, x = .int .i64 j ∧ Hid (∀ i (h : i < L.length), i < j → n ∉ L[i]) ∧ Hid (j ≤ fstI L n) ∧ Hid (Below wr.heap.size wr wr')) (fun x _ => fstI L n - (intOf x).toNat)
                  case atStart => exact ⟨0, rfl, fun j _ h => absurd h (Nat.not_lt_zero _), Nat.zero_le _, Below.refl _ _⟩
                  case round =>
                    obtain ⟨j, rfl, HA, HJf, HBj⟩ := hrel
                    rename World => wj
                    have hjl : j < L.length := by have := HJf.out; have := HFl.out; omega
                    have HBwj : Hid (Below w1.heap.size w1 wj) := HBwr.out.trans (HBj.out.mono HBwr.out.size)
                    obtain ⟨g', fi, fk, pa, pn, pc, fm, fd, eg, hat⟩ := HLs.out j hjl
                    obtain rfl : g = g' := (by injection eg with e; injection e)
                    obtain ⟨d0, d1, d2, d3, d4⟩ := (hat wj HBwj.out).1
                    obtain ⟨n0, n1, n2, n3, n4⟩ := HP.out wj HBwj.out
                    have HC : Hid _ := (hat wj.drew HBwj.out.drew).2
                    have hzs9 := HM2.out j hjl
                    have g3 := (HBj.out.cell (World.block_lt_of_cell? wr _ g1)).trans g1
                    by_cases hin : n ∈ L[j]
                    · have HF : Hid (fstI L n = j) := fstI_at L n j hjl hin HA.out
                      have HD : Hid (decide (n ∈ L[j]) = true) := decide_eq_true hin
                      obtain ⟨zs, HZs⟩ := hid_name L[j]
                      rw [HZs.out] at HC HD hzs9
                      have HH : Hid (∀ za zc w, Lies w za (i64s zs) → Calls Tryd.prog 20 #[.slice za zs.length zc, .int .i64 n] w fun e w' => e = .returned (.bool true) ∧ w' = w) := fun za zc w h => (by have h2 := hasInt_any za zc zs n w h (by unfold maxLen; omega); rw [HD.out] at h2; exact h2)
                      clear hat eg hin
                      have b10 : Below wj.heap.size wj wj := Below.refl _ _
                      have HN : Hid (∀ X, Below wj.heap.size wj X → (X.cell? ⟨W.heap.size, 0, none⟩ = some (.int .i64 t.id) ∧ X.cell? ⟨W.heap.size, 1, none⟩ = some (.string t.nm) ∧ X.cell? ⟨W.heap.size, 2, none⟩ = some (.int .i64 t.rep) ∧ X.cell? ⟨W.heap.size, 3, none⟩ = some (.int .i64 t.kind) ∧ X.cell? ⟨W.heap.size, 4, none⟩ = some (.slice a t.sub.length c)) ∧ (X.cell? ⟨g, j * 5, none⟩ = some (.int .i64 fi) ∧ X.cell? ⟨g, j * 5 + 1, none⟩ = some (.int .i64 fk) ∧ X.cell? ⟨g, j * 5 + 2, none⟩ = some (.int .i64 (fm : Nat)) ∧ X.cell? ⟨g, j * 5 + 3, none⟩ = some (.int .i64 (fd : Nat)) ∧ X.cell? ⟨g, j * 5 + 4, none⟩ = some (.slice pa pn pc)) ∧ X.cell? ⟨b1, o1 + r1, none⟩ = some (.int .i64 n) ∧ Below wj.heap.size wj X) := fun X hX => (by
                        have k9 : ∀ (ad : Addr) (v : Value), wj.cell? ad = some v → X.cell? ad = some v := fun ad v h => (hX.cell (World.block_lt_of_cell? wj _ h)).trans h
                        exact ⟨⟨k9 _ _ n0, k9 _ _ n1, k9 _ _ n2, k9 _ _ n3, k9 _ _ n4⟩, ⟨k9 _ _ d0, k9 _ _ d1, k9 _ _ d2, k9 _ _ d3, k9 _ _ d4⟩, k9 _ _ g3, hX⟩)
                      go_upto_region 19 with fail
                      go_region_held3 (fun X => (X.cell? ⟨W.heap.size, 0, none⟩ = some (.int .i64 t.id) ∧ X.cell? ⟨W.heap.size, 1, none⟩ = some (.string t.nm) ∧ X.cell? ⟨W.heap.size, 2, none⟩ = some (.int .i64 t.rep) ∧ X.cell? ⟨W.heap.size, 3, none⟩ = some (.int .i64 t.kind) ∧ X.cell? ⟨W.heap.size, 4, none⟩ = some (.slice a t.sub.length c)) ∧ (X.cell? ⟨g, j * 5, none⟩ = some (.int .i64 fi) ∧ X.cell? ⟨g, j * 5 + 1, none⟩ = some (.int .i64 fk) ∧ X.cell? ⟨g, j * 5 + 2, none⟩ = some (.int .i64 (fm : Nat)) ∧ X.cell? ⟨g, j * 5 + 3, none⟩ = some (.int .i64 (fd : Nat)) ∧ X.cell? ⟨g, j * 5 + 4, none⟩ = some (.slice pa pn pc)) ∧ X.cell? ⟨b1, o1 + r1, none⟩ = some (.int .i64 n) ∧ Below wj.heap.size wj X) (first | (with_reducible refine HN.out _ ?_; repeat' (first | with_reducible assumption | with_reducible exact b10.drew | with_reducible exact b10))) (first | (go_at_call 19; refine Calls.mono HC.out ?_; rintro e w7 ⟨⟨lv, rfl, hown7⟩, hb7⟩; obtain ⟨za, zc, rfl, hli⟩ := LiI.own hown7; have hbb : Below wj.heap.size wj w7 := (Below.refl _ _).drew.trans hb7) | (go_at_call 20; refine Calls.mono (HH.out _ _ _ hli.1) ?_; rintro e w8 ⟨rfl, hw8⟩; obtain rfl := hw8.symm))
                      all_goals
                        go_wp2
                        go_meet
                        exact ⟨by rw [HE.out, HF.out], HBj.out.trans (hbb.mono HBj.out.size)⟩
                    · have HD : Hid (decide (n ∈ L[j]) = false) := decide_eq_false hin
                      have HA2 : Hid (∀ i (h : i < L.length), i < j + 1 → n ∉ L[i]) := fun i h hi => (by
                        by_cases e : i = j
                        · subst e; exact hin
                        · exact HA.out i h (by omega))
                      have HJ2 : Hid (j + 1 ≤ fstI L n) := (by
                        show _ ≤ _
                        have := HJf.out
                        by_cases e : j = fstI L n
                        · exfalso
                          have h := List.findIdx_getElem (xs := L) (p := fun l => decide (n ∈ l)) (w := HFl.out)
                          simp only [decide_eq_true_eq] at h
                          apply hin
                          have e2 : j = List.findIdx (fun l => decide (n ∈ l)) L := e
                          simp only [e2]
                          exact h
                        · omega)
                      obtain ⟨zs, HZs⟩ := hid_name L[j]
                      rw [HZs.out] at HC HD hzs9
                      have HH : Hid (∀ za zc w, Lies w za (i64s zs) → Calls Tryd.prog 20 #[.slice za zs.length zc, .int .i64 n] w fun e w' => e = .returned (.bool false) ∧ w' = w) := fun za zc w h => (by have h2 := hasInt_any za zc zs n w h (by unfold maxLen; omega); rw [HD.out] at h2; exact h2)
                      clear hat eg hin
                      have b10 : Below wj.heap.size wj wj := Below.refl _ _
                      have HN : Hid (∀ X, Below wj.heap.size wj X → (X.cell? ⟨W.heap.size, 0, none⟩ = some (.int .i64 t.id) ∧ X.cell? ⟨W.heap.size, 1, none⟩ = some (.string t.nm) ∧ X.cell? ⟨W.heap.size, 2, none⟩ = some (.int .i64 t.rep) ∧ X.cell? ⟨W.heap.size, 3, none⟩ = some (.int .i64 t.kind) ∧ X.cell? ⟨W.heap.size, 4, none⟩ = some (.slice a t.sub.length c)) ∧ (X.cell? ⟨g, j * 5, none⟩ = some (.int .i64 fi) ∧ X.cell? ⟨g, j * 5 + 1, none⟩ = some (.int .i64 fk) ∧ X.cell? ⟨g, j * 5 + 2, none⟩ = some (.int .i64 (fm : Nat)) ∧ X.cell? ⟨g, j * 5 + 3, none⟩ = some (.int .i64 (fd : Nat)) ∧ X.cell? ⟨g, j * 5 + 4, none⟩ = some (.slice pa pn pc)) ∧ X.cell? ⟨b1, o1 + r1, none⟩ = some (.int .i64 n) ∧ Below wj.heap.size wj X) := fun X hX => (by
                        have k9 : ∀ (ad : Addr) (v : Value), wj.cell? ad = some v → X.cell? ad = some v := fun ad v h => (hX.cell (World.block_lt_of_cell? wj _ h)).trans h
                        exact ⟨⟨k9 _ _ n0, k9 _ _ n1, k9 _ _ n2, k9 _ _ n3, k9 _ _ n4⟩, ⟨k9 _ _ d0, k9 _ _ d1, k9 _ _ d2, k9 _ _ d3, k9 _ _ d4⟩, k9 _ _ g3, hX⟩)
                      go_upto_region 19 with fail
                      go_region_held3 (fun X => (X.cell? ⟨W.heap.size, 0, none⟩ = some (.int .i64 t.id) ∧ X.cell? ⟨W.heap.size, 1, none⟩ = some (.string t.nm) ∧ X.cell? ⟨W.heap.size, 2, none⟩ = some (.int .i64 t.rep) ∧ X.cell? ⟨W.heap.size, 3, none⟩ = some (.int .i64 t.kind) ∧ X.cell? ⟨W.heap.size, 4, none⟩ = some (.slice a t.sub.length c)) ∧ (X.cell? ⟨g, j * 5, none⟩ = some (.int .i64 fi) ∧ X.cell? ⟨g, j * 5 + 1, none⟩ = some (.int .i64 fk) ∧ X.cell? ⟨g, j * 5 + 2, none⟩ = some (.int .i64 (fm : Nat)) ∧ X.cell? ⟨g, j * 5 + 3, none⟩ = some (.int .i64 (fd : Nat)) ∧ X.cell? ⟨g, j * 5 + 4, none⟩ = some (.slice pa pn pc)) ∧ X.cell? ⟨b1, o1 + r1, none⟩ = some (.int .i64 n) ∧ Below wj.heap.size wj X) (first | (with_reducible refine HN.out _ ?_; repeat' (first | with_reducible assumption | with_reducible exact b10.drew | with_reducible exact b10))) (first | (go_at_call 19; refine Calls.mono HC.out ?_; rintro e w7 ⟨⟨lv, rfl, hown7⟩, hb7⟩; obtain ⟨za, zc, rfl, hli⟩ := LiI.own hown7; have hbb : Below wj.heap.size wj w7 := (Below.refl _ _).drew.trans hb7) | (go_at_call 20; refine Calls.mono (HH.out _ _ _ hli.1) ?_; rintro e w8 ⟨rfl, hw8⟩; obtain rfl := hw8.symm))
                      all_goals
                        have HBn : Hid _ := hbb
                        clear hbb
                        go_wp2
                        go_roundw
                        case rel => exact ⟨j + 1, by go_num, HA2, HJ2, HBj.out.trans (HBn.out.mono HBj.out.size)⟩
                        case measure => have := HJ2.out; simp [intOf]; omega
              case rest =>
                obtain ⟨rfl, HBx⟩ := hcut
                rename World => wx
                obtain ⟨nk, HNk⟩ := hid_name (nxtK L k r)
                rw [HNk.out]
                have HR2 : Hid ((wx.alloc (.cells #[.int .i64 (nk : Nat)] 3)).ownsRow w9.heap.size 3 1 (.slice ra r rc) r (i64s (nxtP L k r))) := (ow_kept HRow.out HBx.out).alloc _
                have HPush : Hid (∀ (l2 : Value) (w2 : World) (ob : Obj), w2.ownsRow w9.heap.size 3 1 l2 (r + 1) (i64s (nxtP L k r) ++ [.int .i64 (nk : Nat)]) → (wx.alloc ob).grownBy w2 (Value.slice ra r rc).ownBlock → w2.ownsRow w9.heap.size 3 1 l2 (r + 1) (i64s (nxtP L k (r + 1))) ∧ Below w9.heap.size w9 w2) := fun l2 w2 ob h1 h2 => (by
                  have hbw := HBq.out.trans (HBx.out.mono HBq.out.size)
                  refine ⟨?_, (hbw.alloc hbw.size ob).grown h2 (by have := hbw.size; simp; omega) (fun k hk => (HRow.out.lt k hk).1)⟩
                  rw [nxtP_succ, i64s_app, HNk.out]
                  exact h1)
                go_wp2_with (at_builtin; refine wpList_append_where _ rfl _ _ 39 rfl w9.heap.size 3 iv (.int .i64 0) 1 8 Tryd.underlying39 hvi hv0 hv1 hv2 rfl (by decide) (.slice ra r rc) r (i64s (nxtP L k r)) rfl HR2.out ⟨wx.heap.size, 0, none⟩ 1 1 [.int .i64 (nk : Nat)] rfl rfl (cell_one_new _ _ _) (by intro u hu; simp at hu; subst hu; rfl) (by unfold maxLen; omega) (by omega) (by have := HBq.out.size; have := HBx.out.size; simp; omega) (by decide) ?_; intro l2 w2 hown2 hgr2 _; have HF2 : Hid _ := HPush.out _ _ _ hown2 hgr2; obtain ⟨a9, c9, rfl⟩ := own_slC hown2)
                go_roundw
                case rel => exact ⟨r + 1, by omega, by omega, by go_num, HF2.out.1, HF2.out.2⟩
                case measure => simp [intOf]; omega
            · have q1 : decide ((r : Int) ≤ (xs.length : Int)) = false := by simp; omega
              obtain rfl : r = xs.length + 1 := by omega
              have HNx : Hid (nxtP L k (xs.length + 1) = nxtR L k) := (by show _ = _; unfold nxtR nxtP; rw [HGD.out])
              have HLe : Hid ((nxtR L k).length = xs.length + 1) := (by show _ = _; rw [nxtR_len, HGD.out])
              have HRf : Hid (LiI wr ra (nxtR L k)) := (by
                have h := HRow.out
                rw [HNx.out] at h
                obtain ⟨x1, x2, x3, x4⟩ := LiI.own h
                injection x3 with x3
                rw [x3]
                exact x4)
              have HBk : Hid (Below wk.heap.size wk wr) := HB7.out.trans ((HBc.out.trans (HBq.out.mono HBc.out.size)).mono HB7.out.size)
              have HRk : Hid (RowO w1.heap.size wr (.slice la k lc) ((List.range k).map (nxtR L)) svs) := HR.out.keep HBk.out
              have HRo : Hid (∀ ob, (wr.alloc ob).ownsRow w1.heap.size 39 1 (.slice la k lc) k svs) := fun ob => (by have h := HRk.out.1.alloc ob; rw [List.length_map, List.length_range] at h; exact h)
              have hsz := HBwr.out.size
              have HPush : Hid (∀ (l2 : Value) (w2 : World), w2.ownsRow w1.heap.size 39 1 l2 (k + 1) (svs ++ [.slice ra (xs.length + 1) rc]) → (wr.alloc (.cells #[.slice ra (xs.length + 1) rc] 39)).grownBy w2 (Value.slice la k lc).ownBlock → RowO w1.heap.size w2 l2 ((List.range (k + 1)).map (nxtR L)) (svs ++ [.slice ra (xs.length + 1) rc]) ∧ Below w1.heap.size w1 w2) := fun l2 w2 h1 h2 => (by
                have hba : ∀ ob, Below wr.heap.size wr (wr.alloc ob) := fun ob => (Below.refl _ _).alloc (Nat.le_refl _) ob
                refine ⟨?_, ?_⟩
                · have h := (HRk.out.keep (hba _)).push (L2 := [nxtR L k]) (svs2 := [.slice ra (xs.length + 1) rc]) rfl (fun j hj => by
                    obtain rfl : j = 0 := by simpa using hj
                    exact ⟨ra, rc, by simp [HLe.out], HRf.out.keep (hba _), by show (nxtR L k).length ≤ 1000; rw [HLe.out]; omega⟩) (by simpa using h1) h2
                  rw [List.range_succ, List.map_append]
                  exact h
                · exact below_ownI (HBwr.out.trans ((hba _).mono HBwr.out.size)) (Nat.le_refl _) (HRo.out _) h2)
              go_wp2_with (at_builtin; refine wpList_append_where _ rfl _ _ 28 rfl w1.heap.size 39 iu (.slice none 0 0) 1 24 Tryd.underlying28 hui hu0 hu1 hu2 rfl (by decide) (.slice la k lc) k svs rfl (HRo.out _) ⟨wr.heap.size, 0, none⟩ 1 1 [.slice ra (xs.length + 1) rc] rfl rfl (cell_one_new _ _ _) (by intro u hu; simp at hu; subst hu; rfl) (by unfold maxLen; omega) (by omega) (by simp; omega) (by decide) ?_; intro l2 w2 hown2 hgr2 _; have HF2 : Hid _ := HPush.out _ _ hown2 hgr2; obtain ⟨a9, c9, rfl⟩ := own_slC hown2)
              go_roundw
              case rel => exact ⟨k + 1, by omega, by go_num, ⟨_, HF2.out.1⟩, HF2.out.2⟩
              case measure => simp [intOf]; omega
    · obtain rfl : k = L.length := by omega
      go_wp2
      go_ret
      exact ⟨⟨la, lc, rfl, HLst⟩, HBW.out⟩
end Go.Proofs.YtiiehnjgljadbaaDoor
