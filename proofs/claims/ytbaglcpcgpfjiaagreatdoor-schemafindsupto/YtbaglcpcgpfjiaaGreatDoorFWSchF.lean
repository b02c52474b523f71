/-
  The walk of SchemaFinds.
-/
import Derived.Test.YtbaglcpcgpfjiaaGreatDoorFUdP
import Derived.Test.YtbaglcpcgpfjiaaGreatDoorFUdO
import Derived.Test.YtbaglcpcgpfjiaaGreatDoorFBFindOf
import Derived.Test.YtbaglcpcgpfjiaaGreatDoorFSErr2
import Derived.Test.YtbaglcpcgpfjiaaGreatDoorFBSSame
import Derived.Test.YtbaglcpcgpfjiaaGreatDoorFSameLies
namespace Go.Proofs.YtbaglcpcgpfjiaaGreatDoor
open Go.RowKit
theorem found_some {t : Tr} {id : Int} (hB : (fl t).map Pc.t = ndT t) (i : Nat) (hi : i < (fl t).length) (h1 : (fl t)[i].t.id = id) (h2 : ∀ j (h' : j < (fl t).length), j < i → (fl t)[j].t.id ≠ id) : (ndT t).find? (fun y => y.id == id) = some (fl t)[i].t := by
  rw [← hB, List.find?_map]
  have h : (fl t).find? ((fun y : Tr => y.id == id) ∘ Pc.t) = some (fl t)[i] := by
    rw [List.find?_eq_some_iff_getElem]
    exact ⟨by simp [h1], i, hi, rfl, fun j hj => by simp [h2 j (by omega) hj]⟩
  rw [h]
  rfl
theorem found_none {t : Tr} {id : Int} (hB : (fl t).map Pc.t = ndT t) (h : ∀ p ∈ fl t, p.t.id ≠ id) : (ndT t).find? (fun y => y.id == id) = none := by
  rw [← hB, List.find?_eq_none]
  intro x hx
  obtain ⟨p, hp, rfl⟩ := List.mem_map.1 hx
  simp [h p hp]
/-- What is read into a variable, whatever was found. -/
def WantC (t : Tr) (id : Int) (w : World) (y0 y2 y3 : Int) (y1 : ByteArray) (ya : Option Addr) (yn yc : Nat) (is : Bool) : Prop :=
  (is = true ∧ ∃ (i : Nat) (h : i < (fl t).length), (fl t)[i].t.id = id ∧ (∀ j (h' : j < (fl t).length), j < i → (fl t)[j].t.id ≠ id) ∧ y0 = (fl t)[i].t.id ∧ y1 = (fl t)[i].t.nm ∧ y2 = (fl t)[i].t.rep ∧ y3 = (fl t)[i].t.kind ∧ yn = (fl t)[i].t.sub.length ∧ LiesN w (fun _ => True) ya (fl t)[i].t.sub ∧ (fl t)[i].t.sub.length ≤ yc) ∨ (is = false ∧ ∀ p ∈ fl t, p.t.id ≠ id)
theorem found_want {t : Tr} {id : Int} {e : Ending} {w : World} (h : FoundL t id e w) : ∃ (y0 y2 y3 : Int) (y1 : ByteArray) (ya : Option Addr) (yn yc : Nat) (is : Bool), e = .returned (.tuple #[.agg #[.int .i64 y0, .string y1, .int .i64 y2, .int .i64 y3, .slice ya yn yc], .bool is]) ∧ WantC t id w y0 y2 y3 y1 ya yn yc is := by
  rcases h with ⟨i, hi, a', c', h1, h2, rfl, h3, h4⟩ | ⟨h1, rfl⟩
  · exact ⟨_, _, _, _, a', _, c', true, rfl, .inl ⟨rfl, i, hi, h1, h2, rfl, rfl, rfl, rfl, rfl, h3, h4⟩⟩
  · exact ⟨_, _, _, _, _, _, _, false, rfl, .inr ⟨rfl, h1⟩⟩
set_option maxRecDepth 100000 in
set_option maxHeartbeats 6400000 in
theorem schemaFinds_walk (t : Tr) (id : Int) (a : Option Addr) (c : Nat) (P : Nat → Prop) (n : Nat) (hd : t.Dp n) (hn : n ≤ 1100000) (hs : t.Sm) (hcp : t.sub.length ≤ c) (W : World) (hl : LiesN W P a t.sub) (A : Nat → Addr) (hA : Errs W A) (htab : Lib.TabIs Tryz.prog W "internal/strconv.uint64pow10" .u64 Lib.pow10Tab) :
    Calls Tryz.prog 3 #[nodeV t a c, .int .i64 id] W fun e w' => e = .returned (.bool true) ∧ Below W.heap.size W w' := by
  obtain ⟨w0, HW0, HX, HB⟩ := one_box W #[.int .i64 t.id, .string t.nm, .int .i64 t.rep, .int .i64 t.kind, .slice a t.sub.length c] 24
  have HL : Hid (LiesN W P a t.sub) := hl
  have HEr : Hid (∀ w, Below W.heap.size W w → Errs w A) := fun w hb => hA.keep hb
  have HTb : Hid (∀ w, Below W.heap.size W w → Lib.TabIs Tryz.prog w "internal/strconv.uint64pow10" .u64 Lib.pow10Tab) := fun w hb => tab_keep htab hb
  have HSm : Hid t.Sm := hs
  have HD : Hid (t.Dp n) := hd
  have HLf : Hid (Calls Tryz.prog 4 #[] w0 fun e w' => e = .returned (.bool true) ∧ Below w0.heap.size w0 w') := leaf_any w0 _ _ _ (HEr.out w0 HB.out).er3 (HTb.out w0 HB.out)
  clear hl hA htab hs hd
  unfold nodeV
  go_enter Tryz.func3, Tryz.ntmps3
  go_wp2_with fail
  rw [HW0.out]
  refine Calls.mono HLf.out ?_
  rintro e w1 ⟨rfl, hb1⟩
  have HB1 : Hid (Below W.heap.size W w1) := HB.out.trans (hb1.mono HB.out.size)
  have HX1 : Hid (w1.heap[W.heap.size]? = some (.cells #[.int .i64 t.id, .string t.nm, .int .i64 t.rep, .int .i64 t.kind, .slice a t.sub.length c] 24 (0, 0))) := blk_keep hb1 HX.out
  clear hb1 HLf
  obtain ⟨⟨p0, p1, p2, p3, p4⟩, _⟩ := row_five HX1.out
  go_wp2_with fail
  refine Calls.mono (tame_any t HSm.out P a c w1 (HL.out.keep HB1.out)) ?_
  rintro e w2 ⟨rfl, hb2⟩
  have HB2 : Hid (Below W.heap.size W w2) := HB1.out.trans (hb2.mono HB1.out.size)
  have HX2 : Hid (w2.heap[W.heap.size]? = some (.cells #[.int .i64 t.id, .string t.nm, .int .i64 t.rep, .int .i64 t.kind, .slice a t.sub.length c] 24 (0, 0))) := blk_keep hb2 HX1.out
  clear hb2 p0 p1 p2 p3 p4
  obtain ⟨⟨p0, p1, p2, p3, p4⟩, _⟩ := row_five HX2.out
  obtain ⟨tm, HTm⟩ := hid_name (decide ((fl t).length ≤ 200 ∧ nmS (fl t) ≤ 4000))
  rw [HTm.out]
  cases tm with
  | false =>
    go_wp2
    go_ret
    exact ⟨rfl, HB2.out⟩
  | true =>
    go_wp2_with fail
    refine Calls.mono (schemaError_any t HSm.out P a c w2 (HL.out.keep HB2.out)) ?_
    rintro e w3 ⟨rfl, hb3⟩
    have HB3 : Hid (Below W.heap.size W w3) := HB2.out.trans (hb3.mono HB2.out.size)
    have HX3 : Hid (w3.heap[W.heap.size]? = some (.cells #[.int .i64 t.id, .string t.nm, .int .i64 t.rep, .int .i64 t.kind, .slice a t.sub.length c] 24 (0, 0))) := blk_keep hb3 HX2.out
    clear hb3 p0 p1 p2 p3 p4
    obtain ⟨⟨p0, p1, p2, p3, p4⟩, _⟩ := row_five HX3.out
    go_wp2_with fail
    refine Calls.mono (findOf_anyL t HSm.out P a c id w3 (HL.out.keep HB3.out) hcp) ?_
    rintro e w4 ⟨hfd, hb4⟩
    obtain ⟨y0, y2, y3, y1, ya, yn, yc, is, rfl, hwc⟩ := found_want hfd
    obtain ⟨w5, HW5, HY, HB5'⟩ := one_box w4 #[.int .i64 y0, .string y1, .int .i64 y2, .int .i64 y3, .slice ya yn yc] 24
    have HB4 : Hid (Below W.heap.size W w4) := HB3.out.trans (hb4.mono HB3.out.size)
    have HB5 : Hid (Below W.heap.size W w5) := HB4.out.trans (HB5'.out.mono HB4.out.size)
    have HX5 : Hid (w5.heap[W.heap.size]? = some (.cells #[.int .i64 t.id, .string t.nm, .int .i64 t.rep, .int .i64 t.kind, .slice a t.sub.length c] 24 (0, 0))) := blk_keep HB5'.out (blk_keep hb4 HX3.out)
    have HWc : Hid (WantC t id w4 y0 y2 y3 y1 ya yn yc is) := hwc
    clear hb4 hwc hfd p0 p1 p2 p3 p4
    -- the copies
    have HOw : Hid (∀ X, Below W.heap.size W X → Calls Tryz.prog 9 #[.agg #[.int .i64 t.id, .string t.nm, .int .i64 t.rep, .int .i64 t.kind, .slice a t.sub.length c]] X fun e w' => (∃ a' c', e = .returned (.agg #[.int .i64 t.id, .string t.nm, .int .i64 t.rep, .int .i64 t.kind, .slice a' t.sub.length c']) ∧ LiesN w' (fun b => X.heap.size ≤ b) a' t.sub ∧ t.sub.length ≤ c') ∧ Below X.heap.size X w') := fun X hX => ownNode_any _ t (Nat.lt_succ_self _) HSm.out P a c X (HL.out.keep hX)
    obtain ⟨⟨p0, p1, p2, p3, p4⟩, _⟩ := row_five HX5.out
    by_cases hv : vldN t = 0
    · obtain ⟨r1, r2, r3, r4, r5⟩ := right_parts hv
      have hdB := dpB t 0 [] r1
      have HNd : Hid ((fl t).map Pc.t = ndT t) := fl_nd t 6 (by omega) hdB.2.2 (by omega)
      have HSe : Hid (seN t = 0) := right_se hv
      have HFi : Hid (∀ X a' c', Below W.heap.size W X → LiesN X (fun b => W.heap.size ≤ b) a' t.sub → t.sub.length ≤ c' → Calls Tryz.prog 8 #[.agg #[.int .i64 t.id, .string t.nm, .int .i64 t.rep, .int .i64 t.kind, .slice a' t.sub.length c'], .int .i64 id] X fun e w' => FindR t id (errV (A 5)) X.heap.size e w' ∧ Below X.heap.size X w') := fun X a' c' hX hl hc => find_any t 6 hdB.2.2 (by omega) HSm.out hv id a' c' _ X hl hc _ _ _ (165, .pointer (some (A 5))) (HEr.out X hX).er3 ((HEr.out X hX).at_ 5 (by omega)).var
      have HUn : Hid (∀ X a' c', Below W.heap.size W X → LiesN X (fun b => W.heap.size ≤ b) a' t.sub → t.sub.length ≤ c' → Calls Tryz.prog 10 #[.agg #[.int .i64 t.id, .string t.nm, .int .i64 t.rep, .int .i64 t.kind, .slice a' t.sub.length c'], .int .i64 id] X fun e w' => UndR t id (errV (A 5)) X.heap.size e w' ∧ Below X.heap.size X w') := fun X a' c' hX hl hc => under_any t 6 hdB.2.2 (by omega) HSm.out hv (by omega) id a' c' _ X hl hc _ _ _ (165, .pointer (some (A 5))) (HEr.out X hX).er3 ((HEr.out X hX).at_ 5 (by omega)).var
      have HIn : Hid (∀ x ∈ ndT t, x.cnt ≤ 2000 ∧ x.Dp 6 ∧ x.Sm) := fun x hx => (by
        obtain ⟨k1, k2, k3⟩ := nd_in (SizeOf.sizeOf t + 1) t (Nat.lt_succ_self _) x hx
        exact ⟨by omega, k2 6 hdB.2.2, k3 HSm.out⟩)
      rw [HSe.out]
      clear hv r1 r2 r3 r4 r5 hdB
      rcases HWc.out with ⟨rfl, i, hi, h1, h2, e0, e1, e2, e3, e4, hyl, hyc⟩ | ⟨rfl, hno⟩
      · obtain ⟨x, HXx⟩ := hid_name (fl t)[i].t
        have HFs : Hid ((ndT t).find? (fun y => y.id == id) = some x) := (by show _ = _; rw [← HXx.out]; exact found_some HNd.out i hi h1 h2)
        rw [HXx.out] at e0 e1 e2 e3 e4 hyl hyc
        subst e0 e1 e2 e3 e4
        have HYl : Hid (LiesN w4 (fun _ => True) ya x.sub) := hyl
        have HxI : Hid _ := HIn.out x (List.mem_of_find?_eq_some HFs.out)
        clear h1 h2 hyl HWc
        go_upto_region 8 with fail
        rw [HW5.out]
        go_wp2_with fail
        refine Calls.mono (HOw.out w5 HB5.out) ?_
        rintro e w6 ⟨⟨a6, c6, rfl, hl6, hc6⟩, hb6⟩
        have HB6 : Hid (Below W.heap.size W w6) := HB5.out.trans (hb6.mono HB5.out.size)
        have HC6 : Hid _ := HFi.out w6 a6 c6 HB6.out (hl6.stay (fun b h _ => Nat.le_trans HB5.out.size h) (fun _ _ _ => rfl)) hc6
        clear hl6 p0 p1 p2 p3 p4
        go_wp2_with fail
        refine Calls.mono HC6.out ?_
        rintro e w7 ⟨hfr, hb7⟩
        rcases hfr with ⟨x', xa, xc, hf', rfl, hxl, hxc⟩ | ⟨hf', _⟩
        · obtain rfl : x = x' := Option.some.inj (HFs.out.symm.trans hf')
          obtain ⟨w8, HW8, HN8, HB8'⟩ := one_box w7 #[.int .i64 x.id, .string x.nm, .int .i64 x.rep, .int .i64 x.kind, .slice xa x.sub.length xc] 24
          have hb58 : Below w5.heap.size w5 w8 := (hb6.trans (hb7.mono hb6.size)).trans (HB8'.out.mono (hb6.trans (hb7.mono hb6.size)).size)
          have HB8 : Hid (Below W.heap.size W w8) := HB5.out.trans (hb58.mono HB5.out.size)
          have HX8 : Hid (w8.heap[W.heap.size]? = some (.cells #[.int .i64 t.id, .string t.nm, .int .i64 t.rep, .int .i64 t.kind, .slice a t.sub.length c] 24 (0, 0))) := blk_keep hb58 HX5.out
          have HY8 : Hid (w8.heap[w4.heap.size]? = some (.cells #[.int .i64 x.id, .string x.nm, .int .i64 x.rep, .int .i64 x.kind, .slice ya x.sub.length yc] 24 (0, 0))) := blk_keep hb58 HY.out
          have HYl8 : Hid (LiesN w8 (fun _ => True) ya x.sub) := HYl.out.keep (HB5'.out.trans (hb58.mono HB5'.out.size))
          have HXl8 : Hid (LiesN w8 (fun b => w6.heap.size ≤ b) xa x.sub) := hxl.keep HB8'.out
          obtain ⟨⟨p0, p1, p2, p3, p4⟩, _⟩ := row_five HX8.out
          clear hf' hxl hb6 hb7 hb58 HC6
          unfold nodeV
          go_upto_region 9 with fail
          rw [HW8.out]
          go_wp2_with fail
          refine Calls.mono (HOw.out w8 HB8.out) ?_
          rintro e w9 ⟨⟨a9, c9, rfl, hl9, hc9⟩, hb9⟩
          have HB9 : Hid (Below W.heap.size W w9) := HB8.out.trans (hb9.mono HB8.out.size)
          have HC9 : Hid _ := HUn.out w9 a9 c9 HB9.out (hl9.stay (fun b h _ => Nat.le_trans HB8.out.size h) (fun _ _ _ => rfl)) hc9
          clear hl9 p0 p1 p2 p3 p4
          go_wp2_with fail
          refine Calls.mono HC9.out ?_
          rintro e w10 ⟨hur, hb10⟩
          rcases hur with ⟨x', lv, hf', rfl, hown⟩ | ⟨hf', _⟩
          · obtain rfl : x = x' := Option.some.inj (HFs.out.symm.trans hf')
            have hb810 : Below w8.heap.size w8 w10 := hb9.trans (hb10.mono hb9.size)
            have HB10 : Hid (Below W.heap.size W w10) := HB8.out.trans (hb810.mono HB8.out.size)
            have HN10 : Hid (w10.heap[w7.heap.size]? = some (.cells #[.int .i64 x.id, .string x.nm, .int .i64 x.rep, .int .i64 x.kind, .slice xa x.sub.length xc] 24 (0, 0))) := blk_keep hb810 HN8.out
            have HY10 : Hid (w10.heap[w4.heap.size]? = some (.cells #[.int .i64 x.id, .string x.nm, .int .i64 x.rep, .int .i64 x.kind, .slice ya x.sub.length yc] 24 (0, 0))) := blk_keep hb810 HY8.out
            have HYl10 : Hid (LiesN w10 (fun _ => True) ya x.sub) := HYl8.out.keep hb810
            have HXl10 : Hid (LiesN w10 (fun b => w6.heap.size ≤ b) xa x.sub) := HXl8.out.keep hb810
            obtain ⟨la, lc, hlv, hlies⟩ := lies_own hown
            rw [i64s_len] at hlv
            subst hlv
            have HLs : Hid (Lies w10 la (i64s (lfI (ndT x)))) := hlies
            have hmx : (lfI (ndT x)).length ≤ maxLen := by
              have h1 := lfI_len (ndT x)
              rw [ndT_len] at h1
              have h2 := HxI.out.1
              unfold maxLen
              omega
            have HIs : Hid _ := isNode_ok x HxI.out.2.2 _ _ xa ya xc yc w10 HXl10.out HYl10.out hxc hyc
            obtain ⟨⟨p0, p1, p2, p3, p4⟩, _⟩ := row_five HN10.out
            obtain ⟨⟨q0, q1, q2, q3, q4⟩, _⟩ := row_five HY10.out
            clear hf' hown hlies hb9 hb10 hb810 HC9
            unfold nodeV at HIs
            go_wp2_with fail
            refine Calls.mono HIs.out ?_
            rintro e w11 ⟨rfl, hb11⟩
            have HB11 : Hid (Below W.heap.size W w11) := HB10.out.trans (hb11.mono HB10.out.size)
            have HY11 : Hid (w11.heap[w4.heap.size]? = some (.cells #[.int .i64 x.id, .string x.nm, .int .i64 x.rep, .int .i64 x.kind, .slice ya x.sub.length yc] 24 (0, 0))) := blk_keep hb11 HY10.out
            have HUo : Hid _ := underOf_any x 6 HxI.out.2.1 (by omega) HxI.out.1 HxI.out.2.2 _ ya yc w11 (HYl10.out.keep hb11)
            have HLs11 : Hid (Lies w11 la (i64s (lfI (ndT x)))) := HLs.out.keep hb11
            clear hb11 p0 p1 p2 p3 p4 q0 q1 q2 q3 q4
            obtain ⟨⟨q0, q1, q2, q3, q4⟩, _⟩ := row_five HY11.out
            unfold nodeV at HUo
            go_wp2_with fail
            refine Calls.mono HUo.out ?_
            rintro e w12 ⟨⟨lv2, rfl, hown2⟩, hb12⟩
            have HB12 : Hid (Below W.heap.size W w12) := HB11.out.trans (hb12.mono HB11.out.size)
            obtain ⟨ma, mc, hlv2, hlies2⟩ := lies_own hown2
            rw [i64s_len] at hlv2
            subst hlv2
            have HSi : Hid _ := sameInts_lies w12 la ma lc mc _ _ hmx (HLs11.out.keep hb12) hlies2 (b := true) (by simp)
            clear hb12 hown2 hlies2
            go_wp2_with fail
            refine Calls.mono HSi.out ?_
            rintro e w13 ⟨rfl, hb13⟩
            have HB13 : Hid (Below W.heap.size W w13) := HB12.out.trans (hb13.mono HB12.out.size)
            clear hb13
            go_wp2
            go_ret
            exact ⟨rfl, HB13.out⟩
          · rw [HFs.out] at hf'
            simp at hf'
        · rw [HFs.out] at hf'
          simp at hf'
      · have HFn : Hid ((ndT t).find? (fun y => y.id == id) = none) := found_none HNd.out hno
        clear hno HWc
        go_upto_region 8 with fail
        rw [HW5.out]
        go_wp2_with fail
        refine Calls.mono (HOw.out w5 HB5.out) ?_
        rintro e w6 ⟨⟨a6, c6, rfl, hl6, hc6⟩, hb6⟩
        have HB6 : Hid (Below W.heap.size W w6) := HB5.out.trans (hb6.mono HB5.out.size)
        have HC6 : Hid _ := HFi.out w6 a6 c6 HB6.out (hl6.stay (fun b h _ => Nat.le_trans HB5.out.size h) (fun _ _ _ => rfl)) hc6
        clear hl6 p0 p1 p2 p3 p4
        go_wp2_with fail
        refine Calls.mono HC6.out ?_
        rintro e w7 ⟨hfr, hb7⟩
        rcases hfr with ⟨x', xa, xc, hf', _⟩ | ⟨hf', rfl⟩
        · rw [HFn.out] at hf'
          simp at hf'
        · have HUnE : Hid (∀ X a' c', Below W.heap.size W X → LiesN X (fun b => W.heap.size ≤ b) a' t.sub → t.sub.length ≤ c' → Calls Tryz.prog 10 #[.agg #[.int .i64 t.id, .string t.nm, .int .i64 t.rep, .int .i64 t.kind, .slice a' t.sub.length c'], .int .i64 id] X fun e w' => e = .returned (.tuple #[.slice none 0 0, errV (A 5)]) ∧ Below X.heap.size X w') := fun X a' c' hX hl hc => (HUn.out X a' c' hX hl hc).mono fun e w' h => ⟨(by
            rcases h.1 with ⟨x', lv, hf', _⟩ | ⟨_, h3⟩
            · rw [HFn.out] at hf'
              simp at hf'
            · exact h3), h.2⟩
          clear HUn hf'
          obtain ⟨w8, HW8, HN8, HB8'⟩ := one_box w7 #[.int .i64 0, .string ⟨#[]⟩, .int .i64 0, .int .i64 0, .slice none 0 0] 24
          have hb58 : Below w5.heap.size w5 w8 := (hb6.trans (hb7.mono hb6.size)).trans (HB8'.out.mono (hb6.trans (hb7.mono hb6.size)).size)
          have HB8 : Hid (Below W.heap.size W w8) := HB5.out.trans (hb58.mono HB5.out.size)
          have HX8 : Hid (w8.heap[W.heap.size]? = some (.cells #[.int .i64 t.id, .string t.nm, .int .i64 t.rep, .int .i64 t.kind, .slice a t.sub.length c] 24 (0, 0))) := blk_keep hb58 HX5.out
          have HY8 : Hid (w8.heap[w4.heap.size]? = some (.cells #[.int .i64 y0, .string y1, .int .i64 y2, .int .i64 y3, .slice ya yn yc] 24 (0, 0))) := blk_keep hb58 HY.out
          obtain ⟨⟨p0, p1, p2, p3, p4⟩, _⟩ := row_five HX8.out
          clear hb6 hb7 hb58 HC6
          go_upto_region 9 with fail
          rw [HW8.out]
          go_wp2_with fail
          refine Calls.mono (HOw.out w8 HB8.out) ?_
          rintro e w9 ⟨⟨a9, c9, rfl, hl9, hc9⟩, hb9⟩
          have HB9 : Hid (Below W.heap.size W w9) := HB8.out.trans (hb9.mono HB8.out.size)
          have HC9 : Hid _ := HUnE.out w9 a9 c9 HB9.out (hl9.stay (fun b h _ => Nat.le_trans HB8.out.size h) (fun _ _ _ => rfl)) hc9
          clear hl9 p0 p1 p2 p3 p4
          go_wp2_with fail
          refine Calls.mono HC9.out ?_
          rintro e w10 ⟨rfl, hb10⟩
          have hb810 : Below w8.heap.size w8 w10 := hb9.trans (hb10.mono hb9.size)
          have HB10 : Hid (Below W.heap.size W w10) := HB8.out.trans (hb810.mono HB8.out.size)
          have HN10 : Hid (w10.heap[w7.heap.size]? = some (.cells #[.int .i64 0, .string ⟨#[]⟩, .int .i64 0, .int .i64 0, .slice none 0 0] 24 (0, 0))) := blk_keep hb810 HN8.out
          have HY10 : Hid (w10.heap[w4.heap.size]? = some (.cells #[.int .i64 y0, .string y1, .int .i64 y2, .int .i64 y3, .slice ya yn yc] 24 (0, 0))) := blk_keep hb810 HY8.out
          have HIs : Hid (Calls Tryz.prog 11 #[.agg #[.int .i64 0, .string ⟨#[]⟩, .int .i64 0, .int .i64 0, .slice none 0 0], errV (A 5), .agg #[.int .i64 y0, .string y1, .int .i64 y2, .int .i64 y3, .slice ya yn yc], .int .i64 (6)] w10 fun e w' => e = .returned (.bool true) ∧ Below w10.heap.size w10 w') := isNode_err A 5 (by omega) y0 y2 y3 y1 ya yn yc w10 (HEr.out w10 HB10.out)
          obtain ⟨⟨p0, p1, p2, p3, p4⟩, _⟩ := row_five HN10.out
          obtain ⟨⟨q0, q1, q2, q3, q4⟩, _⟩ := row_five HY10.out
          clear hb9 hb10 hb810 HC9
          go_wp2_with fail
          refine Calls.mono HIs.out ?_
          rintro e w11 ⟨rfl, hb11⟩
          have HB11 : Hid (Below W.heap.size W w11) := HB10.out.trans (hb11.mono HB10.out.size)
          have HCd : Hid (Calls Tryz.prog 12 #[errV (A 5), .int .i64 (6)] w11 fun e w' => e = .returned (.bool true) ∧ Below w11.heap.size w11 w') := coded_sent w11 A (HEr.out w11 HB11.out) 5 (by omega) _ true (by simp)
          clear hb11 p0 p1 p2 p3 p4 q0 q1 q2 q3 q4
          go_wp2_with fail
          refine Calls.mono HCd.out ?_
          rintro e w12 ⟨rfl, hb12⟩
          have HB12 : Hid (Below W.heap.size W w12) := HB11.out.trans (hb12.mono HB11.out.size)
          clear hb12
          go_wp2
          go_ret
          exact ⟨rfl, HB12.out⟩
    · obtain ⟨i, hi, hx, hse⟩ := wrong_err A hv
      have HFi : Hid (∀ X a' c', Below W.heap.size W X → LiesN X (fun b => W.heap.size ≤ b) a' t.sub → t.sub.length ≤ c' → Calls Tryz.prog 8 #[.agg #[.int .i64 t.id, .string t.nm, .int .i64 t.rep, .int .i64 t.kind, .slice a' t.sub.length c'], .int .i64 id] X fun e w' => e = .returned (.tuple #[.agg #[.int .i64 0, .string ⟨#[]⟩, .int .i64 0, .int .i64 0, .slice none 0 0], errV (A i)]) ∧ Below X.heap.size X w') := fun X a' c' hX hl hc => find_err t n HD.out hn HSm.out id a' c' _ X hl hc _ _ _ (HEr.out X hX).er3 _ _ hx
      have HUnE : Hid (∀ X a' c', Below W.heap.size W X → LiesN X (fun b => W.heap.size ≤ b) a' t.sub → t.sub.length ≤ c' → Calls Tryz.prog 10 #[.agg #[.int .i64 t.id, .string t.nm, .int .i64 t.rep, .int .i64 t.kind, .slice a' t.sub.length c'], .int .i64 id] X fun e w' => e = .returned (.tuple #[.slice none 0 0, errV (A i)]) ∧ Below X.heap.size X w') := fun X a' c' hX hl hc => under_err t n HD.out hn HSm.out id a' c' _ X hl hc _ _ _ (HEr.out X hX).er3 _ _ hx
      have HSn : Hid (((seN t : Nat) : Int) = (i : Int) + 1) := (by show _ = _; rw [hse]; simp)
      rw [HSn.out]
      have qz : (((i : Int) + 1) == 0) = false := by simp; omega
      have qz2 : ¬ ((i : Int) + 1 = 0) := by omega
      have qp : decide ((0 : Int) < (i : Int) + 1) = true := by rw [decide_eq_true_iff]; omega
      have qp2 : (0 : Int) < (i : Int) + 1 := by omega
      clear hv hx hse HWc
      go_upto_region 8 with fail
      rw [HW5.out]
      go_wp2_with fail
      refine Calls.mono (HOw.out w5 HB5.out) ?_
      rintro e w6 ⟨⟨a6, c6, rfl, hl6, hc6⟩, hb6⟩
      have HB6 : Hid (Below W.heap.size W w6) := HB5.out.trans (hb6.mono HB5.out.size)
      have HC6 : Hid _ := HFi.out w6 a6 c6 HB6.out (hl6.stay (fun b h _ => Nat.le_trans HB5.out.size h) (fun _ _ _ => rfl)) hc6
      clear hl6 p0 p1 p2 p3 p4
      go_wp2_with fail
      refine Calls.mono HC6.out ?_
      rintro e w7 ⟨rfl, hb7⟩
      obtain ⟨w8, HW8, HN8, HB8'⟩ := one_box w7 #[.int .i64 0, .string ⟨#[]⟩, .int .i64 0, .int .i64 0, .slice none 0 0] 24
      have hb58 : Below w5.heap.size w5 w8 := (hb6.trans (hb7.mono hb6.size)).trans (HB8'.out.mono (hb6.trans (hb7.mono hb6.size)).size)
      have HB8 : Hid (Below W.heap.size W w8) := HB5.out.trans (hb58.mono HB5.out.size)
      have HX8 : Hid (w8.heap[W.heap.size]? = some (.cells #[.int .i64 t.id, .string t.nm, .int .i64 t.rep, .int .i64 t.kind, .slice a t.sub.length c] 24 (0, 0))) := blk_keep hb58 HX5.out
      have HY8 : Hid (w8.heap[w4.heap.size]? = some (.cells #[.int .i64 y0, .string y1, .int .i64 y2, .int .i64 y3, .slice ya yn yc] 24 (0, 0))) := blk_keep hb58 HY.out
      obtain ⟨⟨p0, p1, p2, p3, p4⟩, _⟩ := row_five HX8.out
      clear hb6 hb7 hb58 HC6
      go_upto_region 9 with fail
      rw [HW8.out]
      go_wp2_with fail
      refine Calls.mono (HOw.out w8 HB8.out) ?_
      rintro e w9 ⟨⟨a9, c9, rfl, hl9, hc9⟩, hb9⟩
      have HB9 : Hid (Below W.heap.size W w9) := HB8.out.trans (hb9.mono HB8.out.size)
      have HC9 : Hid _ := HUnE.out w9 a9 c9 HB9.out (hl9.stay (fun b h _ => Nat.le_trans HB8.out.size h) (fun _ _ _ => rfl)) hc9
      clear hl9 p0 p1 p2 p3 p4
      go_wp2_with fail
      refine Calls.mono HC9.out ?_
      rintro e w10 ⟨rfl, hb10⟩
      have hb810 : Below w8.heap.size w8 w10 := hb9.trans (hb10.mono hb9.size)
      have HB10 : Hid (Below W.heap.size W w10) := HB8.out.trans (hb810.mono HB8.out.size)
      have HN10 : Hid (w10.heap[w7.heap.size]? = some (.cells #[.int .i64 0, .string ⟨#[]⟩, .int .i64 0, .int .i64 0, .slice none 0 0] 24 (0, 0))) := blk_keep hb810 HN8.out
      have HY10 : Hid (w10.heap[w4.heap.size]? = some (.cells #[.int .i64 y0, .string y1, .int .i64 y2, .int .i64 y3, .slice ya yn yc] 24 (0, 0))) := blk_keep hb810 HY8.out
      have HIs : Hid (Calls Tryz.prog 11 #[.agg #[.int .i64 0, .string ⟨#[]⟩, .int .i64 0, .int .i64 0, .slice none 0 0], errV (A i), .agg #[.int .i64 y0, .string y1, .int .i64 y2, .int .i64 y3, .slice ya yn yc], .int .i64 ((i : Int) + 1)] w10 fun e w' => e = .returned (.bool true) ∧ Below w10.heap.size w10 w') := isNode_err A i (by omega) y0 y2 y3 y1 ya yn yc w10 (HEr.out w10 HB10.out)
      obtain ⟨⟨p0, p1, p2, p3, p4⟩, _⟩ := row_five HN10.out
      obtain ⟨⟨q0, q1, q2, q3, q4⟩, _⟩ := row_five HY10.out
      clear hb9 hb10 hb810 HC9
      go_wp2_with fail
      refine Calls.mono HIs.out ?_
      rintro e w11 ⟨rfl, hb11⟩
      have HB11 : Hid (Below W.heap.size W w11) := HB10.out.trans (hb11.mono HB10.out.size)
      have HCd : Hid (Calls Tryz.prog 12 #[errV (A i), .int .i64 ((i : Int) + 1)] w11 fun e w' => e = .returned (.bool true) ∧ Below w11.heap.size w11 w') := coded_sent w11 A (HEr.out w11 HB11.out) i (by omega) _ true (by simp)
      clear hb11 p0 p1 p2 p3 p4 q0 q1 q2 q3 q4
      go_wp2_with fail
      refine Calls.mono HCd.out ?_
      rintro e w12 ⟨rfl, hb12⟩
      have HB12 : Hid (Below W.heap.size W w12) := HB11.out.trans (hb12.mono HB11.out.size)
      clear hb12
      go_wp2
      go_ret
      exact ⟨rfl, HB12.out⟩
end Go.Proofs.YtbaglcpcgpfjiaaGreatDoor
