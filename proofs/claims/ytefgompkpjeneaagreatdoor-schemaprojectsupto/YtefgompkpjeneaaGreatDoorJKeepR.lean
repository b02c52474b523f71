/-
  The reference's keep: a node with those in it that have some of the leaves.
-/
import Derived.Test.YtefgompkpjeneaaGreatDoorJUdO
import Derived.Test.YtefgompkpjeneaaGreatDoorJBSBase
import Derived.Test.YtefgompkpjeneaaGreatDoorJBFindOf
import Derived.Deep.RegionWith
namespace Go.Proofs.YtefgompkpjeneaaGreatDoor
open Go.RowKit
theorem rkT_id (L : List Int) (t : Tr) : (rkT L t).id = t.id ∧ (rkT L t).nm = t.nm ∧ (rkT L t).rep = t.rep ∧ (rkT L t).kind = t.kind ∧ (rkT L t).sub = rkL L t.sub := by
  cases t with
  | node id nm rep kind sub => rw [rkT]; exact ⟨rfl, rfl, rfl, rfl, rfl⟩
theorem rkL_app (L : List Int) : ∀ (xs ys : List Tr), rkL L (xs ++ ys) = rkL L xs ++ rkL L ys
  | [], ys => by simp [rkL]
  | x :: xs, ys => by
    rw [List.cons_append, rkL, rkL, rkL_app L xs ys]
    split <;> simp
theorem rkL_take (L : List Int) (ts : List Tr) (i : Nat) (h : i < ts.length) : rkL L (ts.take (i + 1)) = rkL L (ts.take i) ++ (if (lfI (ndT ts[i])).any (fun i => L.contains i) = true then [rkT L ts[i]] else []) := by
  rw [List.take_succ_eq_append_getElem h, rkL_app, rkL, rkL]
theorem rkL_len (L : List Int) : ∀ (ts : List Tr), (rkL L ts).length ≤ ts.length
  | [] => by simp [rkL]
  | t :: ts => by
    have := rkL_len L ts
    rw [rkL]
    split <;> simp <;> omega
/-- What keep holds. -/
structure KI (W : World) (t : Tr) (a : Option Addr) (c : Nat) (wr : World) (us : List Tr) (l : Value) (ncs : List (List Value)) : Prop where
  box : wr.heap[W.heap.size]? = some (.cells #[.int .i64 t.id, .string t.nm, .int .i64 t.rep, .int .i64 t.kind, .slice a t.sub.length c] 24 (0, 0))
  res : wr.heap[W.heap.size + 1]? = some (.cells #[.int .i64 0, .string ⟨#[]⟩, .int .i64 0, .int .i64 0, .slice none 0 0] 24 (0, 0))
  out : wr.heap[W.heap.size + 1 + 1]? = some (.cells #[.int .i64 t.id, .string t.nm, .int .i64 t.rep, .int .i64 t.kind, l] 24 (0, 0))
  len : ncs.length = us.length
  five : ∀ x ∈ ncs, x.length = 5
  row : wr.ownsRow (W.heap.size + 3) 24 5 l us.length ncs.flatten
  each : ∀ j (h : j < ncs.length) (h' : j < us.length), NodeC wr (fun b => W.heap.size + 3 ≤ b ∧ l.ownBlock ≠ some b) us[j] ncs[j]
  old : Below W.heap.size W wr
  big : W.heap.size + 3 ≤ wr.heap.size
theorem KI.shape {W : World} {t : Tr} {a : Option Addr} {c : Nat} {wr : World} {us : List Tr} {l : Value} {ncs : List (List Value)} (h : KI W t a c wr us l ncs) : ∃ a' c', l = .slice a' us.length c' ∧ us.length ≤ c' := by
  rcases h.row.2 with ⟨h0, h1⟩ | ⟨g, cap, cur, h0, _, _, hnc, _⟩
  · exact ⟨none, 0, by rw [h0, h1], by omega⟩
  · exact ⟨_, cap, h0, hnc⟩
theorem KI.lies {W : World} {t : Tr} {a : Option Addr} {c : Nat} {wr : World} {us : List Tr} {a' : Option Addr} {c' : Nat} {ncs : List (List Value)} (h : KI W t a c wr us (.slice a' us.length c') ncs) : LiesN wr (fun b => W.heap.size + 3 ≤ b) a' us := by
  refine ⟨fun j => ncs.getD j [], fun j hj => ?_, fun j hj => ?_⟩
  · have hjn : j < ncs.length := by rw [h.len]; exact hj
    have e : ncs.getD j [] = ncs[j] := by simp [List.getD, hjn]
    show NodeAt wr _ a' j (ncs.getD j [])
    rw [e]
    have h5 := h.five ncs[j] (List.getElem_mem hjn)
    rcases h.row.2 with ⟨_, h0⟩ | ⟨g, cap, cur, hv, hbg, _⟩
    · exact absurd hj (by omega)
    · have hv' := hv
      injection hv' with ha _ _
      subst ha
      have hc : ∀ k u, ncs[j][k]? = some u → k < 5 → wr.cell? ⟨g, j * 5 + k, none⟩ = some u := fun k u hu hk => by
        have h1 := h.row.cells (g := g) rfl (j * 5 + k) u (by rw [flat5 ncs h.five j k hk, List.getElem?_eq_getElem hjn]; exact hu)
        rw [addr_plus, Nat.zero_add] at h1
        exact h1
      generalize ncs[j] = cs at *
      match cs, h5 with
      | [x0, x1, x2, x3, x4], _ =>
        have c0 := hc 0 x0 rfl (by omega)
        have c1 := hc 1 x1 rfl (by omega)
        have c2 := hc 2 x2 rfl (by omega)
        have c3 := hc 3 x3 rfl (by omega)
        have c4 := hc 4 x4 rfl (by omega)
        exact ⟨g, 0, x0, x1, x2, x3, x4, rfl, by omega, rfl, by simpa using c0, by simpa using c1, by simpa using c2, by simpa using c3, by simpa using c4⟩
  · have hjn : j < ncs.length := by rw [h.len]; exact hj
    have e : ncs.getD j [] = ncs[j] := by simp [List.getD, hjn]
    show NodeC wr _ us[j] (ncs.getD j [])
    rw [e]
    exact (h.each j hjn hj).stay (fun b hP _ => hP.1) (fun _ _ _ => rfl)
theorem KI.keep {W : World} {t : Tr} {a : Option Addr} {c : Nat} {wr w1 : World} {us : List Tr} {l : Value} {ncs : List (List Value)} (h : KI W t a c wr us l ncs) (hb : Below wr.heap.size wr w1) : KI W t a c w1 us l ncs :=
  ⟨blk_keep hb h.box, blk_keep hb h.res, blk_keep hb h.out, h.len, h.five, ow_kept h.row hb, fun j hj hj' => (h.each j hj hj').stay (fun _ h _ => h) (fun b _ hl => hb.block b hl), h.old.trans (hb.mono h.old.size), Nat.le_trans h.big hb.size⟩
theorem KI.apart {W : World} {t : Tr} {a : Option Addr} {c : Nat} {wr : World} {us : List Tr} {l : Value} {ncs : List (List Value)} (h : KI W t a c wr us l ncs) {k : Nat} (hk : k < W.heap.size + 3) : some k ≠ l.ownBlock := by
  rcases h.row.2 with ⟨rfl, _⟩ | ⟨g, cap, cur, rfl, hg, _⟩
  · simp [Value.ownBlock]
  · simp [Value.ownBlock]; omega
theorem KI.three {W : World} {t : Tr} {a : Option Addr} {c : Nat} {wr w1 w2 : World} {us : List Tr} {l : Value} {ncs : List (List Value)} (h : KI W t a c wr us l ncs) (hb : Below wr.heap.size wr w1) {ob : Obj} (hg : (w1.alloc ob).grownBy w2 l.ownBlock) {k : Nat} (hk : k < W.heap.size + 3) : w2.heap[k]? = wr.heap[k]? := by
  have h1 : k < wr.heap.size := Nat.lt_of_lt_of_le hk h.big
  have h2 : k < w1.heap.size := Nat.lt_of_lt_of_le h1 hb.size
  rw [hg.block k (by simp; omega) (h.apart hk), heap_alloc_old w1 ob h2, hb.block k h1]
/-- A copy is put behind the others. -/
theorem KI.push {W : World} {t : Tr} {a : Option Addr} {c : Nat} {wr w1 w2 : World} {us : List Tr} {u : Tr} {l l' : Value} {ncs : List (List Value)} {a1 : Option Addr} {c1 : Nat} (h : KI W t a c wr us l ncs) (hb : Below wr.heap.size wr w1) (hc1 : u.sub.length ≤ c1) (hn : LiesN w1 (fun b => wr.heap.size ≤ b) a1 u.sub) {ob : Obj}
    (hown : w2.ownsRow (W.heap.size + 3) 24 5 l' (us.length + 1) (ncs.flatten ++ [.int .i64 u.id, .string u.nm, .int .i64 u.rep, .int .i64 u.kind, .slice a1 u.sub.length c1])) (hg : (w1.alloc ob).grownBy w2 l.ownBlock) (hw : l'.ownBlock = l.ownBlock ∧ l.ownBlock ≠ none ∨ l'.ownBlock = some (w1.alloc ob).heap.size) :
    KI W t a c (w2.setCell ⟨W.heap.size + 1 + 1, 4, none⟩ l') (us ++ [u]) l' (ncs ++ [[.int .i64 u.id, .string u.nm, .int .i64 u.rep, .int .i64 u.kind, .slice a1 u.sub.length c1]]) := by
  have hbig := h.big
  have hbs := hb.size
  have hgs := hg.size
  simp only [World.size_alloc] at hgs
  have hlb : ∀ k, l.ownBlock = some k → k < wr.heap.size := fun k hk => (h.row.lt k hk).2
  have hset : ∀ k, k ≠ W.heap.size + 1 + 1 → (w2.setCell ⟨W.heap.size + 1 + 1, 4, none⟩ l').heap[k]? = w2.heap[k]? := fun k hk => Below.heap_setCell _ _ _ _ hk
  have b1 : Below W.heap.size W w2 := ((h.old.trans (hb.mono h.old.size)).alloc (h.old.trans (hb.mono h.old.size)).size ob).grown hg (by have := h.old.size; simp; omega) (fun k hk => by have := (h.row.lt k hk).1; omega)
  refine ⟨?_, ?_, ?_, by rw [List.length_append, List.length_append, h.len]; rfl, fun x hx => ?_, ?_, fun j hj hj' => ?_, ?_, ?_⟩
  · rw [hset _ (by omega), h.three hb hg (by omega)]; exact h.box
  · rw [hset _ (by omega), h.three hb hg (by omega)]; exact h.res
  · rw [row_setC ((h.three hb hg (by omega)).trans h.out)]
    rfl
  · rcases List.mem_append.1 hx with hx | hx
    · exact h.five x hx
    · rw [List.mem_singleton.1 hx]; rfl
  · rw [List.flatten_append, List.length_append]
    have hown2 : w2.ownsRow (W.heap.size + 3) 24 5 l' (us.length + 1) (ncs.flatten ++ [[.int .i64 u.id, .string u.nm, .int .i64 u.rep, .int .i64 u.kind, .slice a1 u.sub.length c1]].flatten) := by simpa using hown
    refine ⟨hown2.1, ?_⟩
    rcases hown2.2 with hn0 | ⟨g, cap, cur, h1, hbg, hgg, rest⟩
    · exact .inl hn0
    · exact .inr ⟨g, cap, cur, h1, hbg, (hset g (by omega)).trans hgg, rest⟩
  · by_cases hjl : j < ncs.length
    · rw [List.getElem_append_left hjl, List.getElem_append_left (by rw [← h.len]; exact hjl)]
      refine (h.each j hjl (by rw [← h.len]; exact hjl)).stay (fun b hP hlt => ⟨hP.1, ?_⟩) (fun b hP hlt => ?_)
      · rw [hset b (by omega), hg.block b (by simp; omega) (fun e => hP.2 e.symm), heap_alloc_old w1 ob (show b < w1.heap.size by omega), hb.block b hlt]
      · rcases hw with ⟨e, _⟩ | e
        · rw [e]; exact hP.2
        · rw [e]; simp; omega
    · have hje : j = ncs.length := by rw [List.length_append] at hj; simp at hj; omega
      have hju : j = us.length := by rw [hje, h.len]
      have ee : (ncs ++ [[.int .i64 u.id, .string u.nm, .int .i64 u.rep, .int .i64 u.kind, .slice a1 u.sub.length c1]])[j] = [.int .i64 u.id, .string u.nm, .int .i64 u.rep, .int .i64 u.kind, .slice a1 u.sub.length c1] := by
        rw [List.getElem_append_right (by omega)]
        simp
      have eu : (us ++ [u])[j] = u := by
        rw [List.getElem_append_right (by omega)]
        simp
      rw [ee, eu]
      refine NodeC.join c1 hc1 (hn.stay (fun b hP hlt => ⟨by omega, ?_⟩) (fun b hP hlt => ?_))
      · rcases hw with ⟨e, hne⟩ | e
        · rw [e]
          intro e2
          have := hlb b e2
          omega
        · rw [e]; simp; omega
      · rw [hset b (by omega), hg.block b (by simp; omega) (fun e => by have := hlb b e.symm; omega), heap_alloc_old w1 ob hlt]
  · exact ⟨b1.os, b1.tape, b1.output, by simp only [World.size_setCell]; exact b1.size, fun k hk => (hset k (by omega)).trans (b1.block k hk)⟩
  · simp only [World.size_setCell]; omega
theorem any_take1 (f : Int → Bool) (l : List Int) (k : Nat) (h : k < l.length) : (l.take (k + 1)).any f = ((l.take k).any f || f l[k]) := by
  rw [List.take_succ_eq_append_getElem h, List.any_append]
  simp
set_option maxRecDepth 100000 in
set_option maxHeartbeats 6400000 in
theorem keepR_any (L : List Int) (la : Option Addr) (lc : Nat) (hL : L.length ≤ 1000000) : ∀ (n : Nat) (t : Tr), SizeOf.sizeOf t < n → t.Sm → ∀ (k : Nat), t.Dp k → k ≤ 100 → t.cnt ≤ 2000 → ∀ (P : Nat → Prop) (a : Option Addr) (c : Nat) (W : World), LiesN W P a t.sub → Lies W la (i64s L) →
    Calls Tryz.prog 18 #[nodeV t a c, .slice la L.length lc] W fun e w' => (∃ a' c', e = .returned (.agg #[.int .i64 t.id, .string t.nm, .int .i64 t.rep, .int .i64 t.kind, .slice a' (rkL L t.sub).length c']) ∧ LiesN w' (fun b => W.heap.size ≤ b) a' (rkL L t.sub) ∧ (rkL L t.sub).length ≤ c') ∧ Below W.heap.size W w'
  | 0, t, h => absurd h (Nat.not_lt_zero _)
  | n + 1, t, hsz => fun hsm kd hd hkd hcn P a c W hl hla => by
    obtain ⟨iv, hvi, hv0, hv1, hv2⟩ := info_parts Tryz.infoN
    have HL : Hid (LiesN W P a t.sub) := hl
    have HLa : Hid (Lies W la (i64s L)) := hla
    have hlen := hsm.len
    have hsubs : ∀ j (hj : j < t.sub.length), t.sub[j].Sm ∧ t.sub[j].Dp kd ∧ t.sub[j].cnt ≤ 2000 := fun j hj => by
      obtain ⟨k1, k2, k3⟩ := nd_in (SizeOf.sizeOf t + 1) t (Nat.lt_succ_self _) t.sub[j] (nd_sub (List.getElem_mem hj) (nd_self _))
      exact ⟨hsm.at_ j hj, k2 kd hd, by omega⟩
    have HUo : Hid (∀ j (hj : j < t.sub.length) (P : Nat → Prop) (a : Option Addr) (c : Nat) (W : World), LiesN W P a t.sub[j].sub → Calls Tryz.prog 17 #[.agg #[.int .i64 t.sub[j].id, .string t.sub[j].nm, .int .i64 t.sub[j].rep, .int .i64 t.sub[j].kind, .slice a t.sub[j].sub.length c]] W fun e w' => (∃ lv, e = .returned lv ∧ w'.ownsRow W.heap.size 3 1 lv (lfI (ndT t.sub[j])).length (i64s (lfI (ndT t.sub[j])))) ∧ Below W.heap.size W w') := fun j hj P a c W h => underOf_any t.sub[j] kd (hsubs j hj).2.1 hkd (hsubs j hj).2.2 (hsubs j hj).1 P a c W h
    have HIH : Hid (∀ j (hj : j < t.sub.length) (P : Nat → Prop) (a : Option Addr) (c : Nat) (W : World), LiesN W P a t.sub[j].sub → Lies W la (i64s L) → Calls Tryz.prog 18 #[.agg #[.int .i64 t.sub[j].id, .string t.sub[j].nm, .int .i64 t.sub[j].rep, .int .i64 t.sub[j].kind, .slice a t.sub[j].sub.length c], .slice la L.length lc] W fun e w' => (∃ a' c', e = .returned (.agg #[.int .i64 t.sub[j].id, .string t.sub[j].nm, .int .i64 t.sub[j].rep, .int .i64 t.sub[j].kind, .slice a' (rkL L t.sub[j].sub).length c']) ∧ LiesN w' (fun b => W.heap.size ≤ b) a' (rkL L t.sub[j].sub) ∧ (rkL L t.sub[j].sub).length ≤ c') ∧ Below W.heap.size W w') := fun j hj P a c W h h2 => keepR_any L la lc hL n t.sub[j] (by have := t.sub_size j hj; omega) (hsubs j hj).1 kd (hsubs j hj).2.1 hkd (hsubs j hj).2.2 P a c W h h2
    have HLf : Hid (∀ j (hj : j < t.sub.length), (lfI (ndT t.sub[j])).length ≤ 2000) := fun j hj => (by
      have h1 := lfI_len (ndT t.sub[j])
      rw [ndT_len] at h1
      have := (hsubs j hj).2.2
      omega)
    clear hl hsm hsz hla hd hsubs
    obtain ⟨w0, HW0, HX, HY, HZ, HB, HSz⟩ := three_boxesS W #[.int .i64 t.id, .string t.nm, .int .i64 t.rep, .int .i64 t.kind, .slice a t.sub.length c] #[.int .i64 0, .string ⟨#[]⟩, .int .i64 0, .int .i64 0, .slice none 0 0] #[.int .i64 t.id, .string t.nm, .int .i64 t.rep, .int .i64 t.kind, .slice none 0 0] 24 24 24
    have HS : Hid (KI W t a c w0 [] (.slice none 0 0) []) := ⟨HX.out, HY.out, HZ.out, rfl, fun x hx => by simp at hx, World.ownsRow_nil _ _ _ _, fun j h => absurd h (by simp), HB.out, by rw [HSz.out]; omega⟩
    unfold nodeV
    go_enter Tryz.func18, Tryz.ntmps18
    go_wp2_with fail
    rw [HW0.out]
    go_loopw [6] (fun x wr => ∃ (i : Nat) (l : Value) (ncs : List (List Value)), i ≤ t.sub.length ∧ x = .int .i64 i ∧ Hid (KI W t a c wr (rkL L (t.sub.take i)) l ncs)) (fun x _ => t.sub.length - (intOf x).toNat)
    case atStart => exact ⟨0, _, [], Nat.zero_le _, rfl, by rw [List.take_zero, rkL]; exact HS.out⟩
    case round =>
      clear HS
      obtain ⟨i, l, ncs, hik, rfl, HO⟩ := hrel
      rename World => wr
      obtain ⟨⟨p0, p1, p2, p3, p4⟩, _⟩ := row_five HO.out.box
      have hb := HO.out.old
      have hkl := rkL_len L (t.sub.take i)
      have hkl2 : (rkL L (t.sub.take i)).length ≤ 1048576 := by simp at hkl; omega
      obtain ⟨ra, rc, hlv, hlc⟩ := HO.out.shape
      subst hlv
      by_cases hlt : i < t.sub.length
      · obtain ⟨b, o, a1, c1, rfl, d0, d1, d2, d3, d4, hl1⟩ := (HL.out.keep hb).at_ i hlt
        have HL1 : Hid (LiesN wr P a1 t.sub[i].sub) := hl1
        have HC : Hid _ := HUo.out i hlt P a1 c1 wr hl1
        have hlf := HLf.out i hlt
        clear hl1
        have HTk : Hid _ := rkL_take L t.sub i hlt
        obtain ⟨zs, HZs⟩ := hid_name (lfI (ndT t.sub[i]))
        rw [HZs.out] at HC HTk hlf
        go_wp2_with fail
        refine Calls.mono HC.out ?_
        rintro e w1 ⟨⟨uv, rfl, hown⟩, hb1⟩
        obtain ⟨ua, uc, huv, hul⟩ := lies_own hown
        rw [i64s_len] at huv
        subst huv
        have HUl : Hid (Lies w1 ua (i64s zs)) := hul
        have HB1 : Hid (Below wr.heap.size wr w1) := hb1
        have HK1 : Hid (KI W t (some ⟨b, o, none⟩) c w1 (rkL L (t.sub.take i)) (.slice ra (rkL L (t.sub.take i)).length rc) ncs) := HO.out.keep hb1
        have HLa1 : Hid (Lies w1 la (i64s L)) := HLa.out.keep HK1.out.old
        clear hown hul hb1 HC p0 p1 p2 p3 p4 d0 d1 d2 d3 d4
        go_wp2_with fail
        go_loopw [8, 9] (fun y x wx => ∃ (k : Nat) (yb : Bool), k ≤ zs.length ∧ x = .int .i64 k ∧ y = .bool yb ∧ Hid (yb = (zs.take k).any (fun i => L.contains i)) ∧ w1 = wx) (fun _ x _ => zs.length - (intOf x).toNat)
        case atStart => exact ⟨0, false, Nat.zero_le _, rfl, rfl, rfl, rfl⟩
        case round =>
          obtain ⟨k, yb, hkz, rfl, rfl, HYb, rfl⟩ := hrel
          by_cases hkl : k < zs.length
          · obtain ⟨b1, o1, rfl, e1⟩ := HUl.out k (by rw [i64s_len]; exact hkl)
            have g1 : w1.cell? ⟨b1, o1 + k, none⟩ = some (.int .i64 zs[k]) := by simpa [i64s] using e1
            clear e1
            have HTy : Hid _ := any_take1 (fun i => L.contains i) zs k hkl
            obtain ⟨z, HZz⟩ := hid_name zs[k]
            rw [HZz.out] at g1 HTy
            have HH : Hid _ := hasInt_any la lc L z w1 HLa1.out (by unfold maxLen; omega)
            have HDc : Hid (decide (z ∈ L) = L.contains z) := (by show _ = _; simp)
            rw [HDc.out] at HH
            obtain ⟨cb, HCb⟩ := hid_name (L.contains z)
            rw [HCb.out] at HH
            go_wp2_with fail
            refine Calls.mono HH.out ?_
            rintro e w2 ⟨rfl, hw2⟩
            obtain rfl := hw2.symm
            have HYn : Hid ((yb || cb) = (zs.take (k + 1)).any (fun i => L.contains i)) := (by show _ = _; rw [HTy.out, HYb.out, HCb.out])
            cases yb with
            | true =>
              go_wp2
              go_roundw
              case rel => exact ⟨k + 1, true, by omega, by go_num, rfl, HYn, by first | rfl | trivial⟩
              case measure => simp [intOf]; omega
            | false =>
              go_wp2
              go_roundw
              case rel => exact ⟨k + 1, cb, by omega, by go_num, rfl, HYn, by first | rfl | trivial⟩
              case measure => simp [intOf]; omega
          · obtain rfl : k = zs.length := by omega
            rw [List.take_length] at HYb
            cases yb with
            | false =>
              have HKn : Hid (KI W t (some ⟨b, o, none⟩) c w1 (rkL L (t.sub.take (i + 1))) (.slice ra (rkL L (t.sub.take i)).length rc) ncs) := (by
                show KI _ _ _ _ _ _ _ _
                have e : rkL L (t.sub.take (i + 1)) = rkL L (t.sub.take i) := by rw [HTk.out, ← HYb.out]; simp
                rw [e]
                exact HK1.out)
              go_wp2
              go_roundw
              case rel => exact ⟨i + 1, _, _, by omega, by go_num, HKn⟩
              case measure => simp [intOf]; omega
            | true =>
              have HTk2 : Hid (rkL L (t.sub.take (i + 1)) = rkL L (t.sub.take i) ++ [rkT L t.sub[i]]) := (by show _ = _; rw [HTk.out, ← HYb.out]; simp)
              obtain ⟨b', o', a9, c9, e9, d0, d1, d2, d3, d4, hl9⟩ := (HL.out.keep HK1.out.old).at_ i hlt
              obtain ⟨rfl, rfl⟩ : b = b' ∧ o = o' := (by injection e9 with e9; injection e9 with e1 e2 _; exact ⟨e1, e2⟩)
              have HC : Hid _ := HIH.out i hlt P a9 c9 w1.drew (hl9.stay (fun _ h _ => h) (fun _ _ _ => rfl)) HLa1.out
              have HRow : Hid (w1.ownsRow (W.heap.size + 3) 24 5 (.slice ra (rkL L (t.sub.take i)).length rc) (rkL L (t.sub.take i)).length ncs.flatten) := HK1.out.row
              have HP : Hid (∀ (w2 w3 : World) (ob : Obj), Below w1.heap.size w1 w2 → (w2.alloc ob).grownBy w3 (Value.slice ra (rkL L (t.sub.take i)).length rc).ownBlock → w3.heap[W.heap.size + 1 + 1]? = some (.cells #[.int .i64 t.id, .string t.nm, .int .i64 t.rep, .int .i64 t.kind, .slice ra (rkL L (t.sub.take i)).length rc] 24 (0, 0))) := fun w2 w3 ob h1 h2 => (HK1.out.three h1 h2 (by omega)).trans HK1.out.out
              have hbig := HK1.out.big
              obtain ⟨⟨p0, p1, p2, p3, p4⟩, _⟩ := row_five HK1.out.box
              obtain ⟨⟨r0, r1, r2, r3, r4⟩, f0, f1, f2, f3, f4⟩ := row_five HK1.out.out
              have HPsh : Hid (∀ (w2 w3 : World) (l' : Value) (a2 : Option Addr) (c2 : Nat) (ob : Obj), Below w1.heap.size w1 w2 → (rkL L t.sub[i].sub).length ≤ c2 → LiesN w2 (fun b => w1.heap.size ≤ b) a2 (rkL L t.sub[i].sub) → w3.ownsRow (W.heap.size + 3) 24 5 l' ((rkL L (t.sub.take i)).length + 1) (ncs.flatten ++ [.int .i64 t.sub[i].id, .string t.sub[i].nm, .int .i64 t.sub[i].rep, .int .i64 t.sub[i].kind, .slice a2 (rkL L t.sub[i].sub).length c2]) → (w2.alloc ob).grownBy w3 (Value.slice ra (rkL L (t.sub.take i)).length rc).ownBlock → (l'.ownBlock = (Value.slice ra (rkL L (t.sub.take i)).length rc).ownBlock ∧ (Value.slice ra (rkL L (t.sub.take i)).length rc).ownBlock ≠ none ∨ l'.ownBlock = some (w2.alloc ob).heap.size) → KI W t (some ⟨b, o, none⟩) c (w3.setCell ⟨W.heap.size + 1 + 1, 4, none⟩ l') (rkL L (t.sub.take (i + 1))) l' (ncs ++ [[.int .i64 t.sub[i].id, .string t.sub[i].nm, .int .i64 t.sub[i].rep, .int .i64 t.sub[i].kind, .slice a2 (rkL L t.sub[i].sub).length c2]])) := fun w2 w3 l' a2 c2 ob h1 h2 h3 h4 h5 h6 => (by
                rw [HTk2.out]
                obtain ⟨k1, k2, k3, k4, k5⟩ := rkT_id L t.sub[i]
                have h := HK1.out.push (u := rkT L t.sub[i]) h1 (a1 := a2) (c1 := c2) (by rw [k5]; exact h2) (by rw [k5]; exact h3) (l' := l') (ob := ob) (by rw [k1, k2, k3, k4, k5]; exact h4) h5 h6
                rw [k1, k2, k3, k4, k5] at h
                exact h)
              clear hl9
              go_wp2_with fail
              go_region_law (first
                | (refine step_own_where _ rfl _ _ 22 rfl (W.heap.size + 3) 24 iv (.agg #[.int .i64 0, .string ⟨#[]⟩, .int .i64 0, .int .i64 0, .slice none 0 0]) 5 64 Tryz.underlying22 hvi hv0 hv1 hv2 rfl (by decide) _ (rkL L (t.sub.take i)).length ncs.flatten rfl ((ow_kept HRow.out hb2).alloc _) ⟨w2.heap.size, 0, none⟩ 1 1 [.int .i64 t.sub[i].id, .string t.sub[i].nm, .int .i64 t.sub[i].rep, .int .i64 t.sub[i].kind, .slice a2 (rkL L t.sub[i].sub).length c2] rfl rfl five_cells (by intro u hu; simp at hu; rcases hu with rfl | rfl | rfl | rfl | rfl <;> rfl) (by unfold maxLen; omega) (by omega) (by have := hb2.size; simp; omega) (by decide) ?_; intro l' w3 hown3 hgrow3 hwh; obtain ⟨g3, cap3, rfl⟩ := own_shape hown3; obtain ⟨⟨_, _, _, _, y4⟩, _, _, _, _, z4⟩ := row_five (HP.out _ _ _ hb2 hgrow3); have HOn : Hid _ := HPsh.out _ _ _ _ _ _ hb2 hc2 HL2.out hown3 hgrow3 hwh)
                | (go_simp; refine Calls.mono HC.out ?_; rintro e w2 ⟨⟨a2, c2, rfl, hl2, hc2⟩, hbb⟩; have HL2 : Hid (LiesN w2 (fun b => w1.heap.size ≤ b) a2 (rkL L t.sub[i].sub)) := hl2; clear hl2; have hb2 : Below w1.heap.size w1 w2 := (Below.refl _ _).drew.trans hbb; have r4' := (hb2.cell (World.block_lt_of_cell? w1 _ r4)).trans r4; have hs1 : W.heap.size + 1 + 1 < w2.heap.size := (by have := hb2.size; omega); have r5' : ∀ ob : Obj, (w2.alloc ob).cell? ⟨W.heap.size + 1 + 1, 4, none⟩ = some (.slice ra (rkL L (t.sub.take i)).length rc) := fun ob => (((Below.refl w2.heap.size w2).alloc (Nat.le_refl _) ob).cell hs1).trans r4'))
              all_goals
                go_wp2
                go_roundw
                case rel => exact ⟨i + 1, _, _, by omega, by go_num, HOn⟩
                case measure => simp [intOf]; omega
      · obtain rfl : i = t.sub.length := by omega
        obtain ⟨⟨s0, s1, s2, s3, s4⟩, t0, t1, t2, t3, t4⟩ := row_five HO.out.res
        obtain ⟨⟨q0, q1, q2, q3, q4⟩, _⟩ := row_five HO.out.out
        have HO2 := HO.out
        rw [List.take_length] at HO2 hlc
        have HLs : Hid (LiesN wr (fun b => W.heap.size + 3 ≤ b) ra (rkL L t.sub)) := HO2.lies
        have HRw : Hid _ := row_setC (j := 4) (v := .slice ra (rkL L t.sub).length rc) (row_setC (j := 3) (v := .int .i64 t.kind) (row_setC (j := 2) (v := .int .i64 t.rep) (row_setC (j := 1) (v := .string t.nm) (row_setC (j := 0) (v := .int .i64 t.id) HO.out.res))))
        rw [List.take_length] at q4
        clear HO2
        go_wp2
        refine bodyPost_ret (v := .agg #[.int .i64 t.id, .string t.nm, .int .i64 t.rep, .int .i64 t.kind, .slice ra (rkL L t.sub).length rc]) (results_cell_row Tryz.results18 _ _ (W.heap.size + 1) 24 #[.int .i64 t.id, .string t.nm, .int .i64 t.rep, .int .i64 t.kind, .slice ra (rkL L t.sub).length rc] (0, 0) _ rfl HRw.out Tryz.underlying24 rfl (by kernel_rfl)) rfl ⟨⟨ra, rc, rfl, ?_, hlc⟩, ?_⟩
        · exact HLs.out.stay (fun b h _ => by omega) (fun b h _ => by
            have h2 : b ≠ W.heap.size + 1 := by omega
            rw [Below.heap_setCell _ _ _ _ h2, Below.heap_setCell _ _ _ _ h2, Below.heap_setCell _ _ _ _ h2, Below.heap_setCell _ _ _ _ h2, Below.heap_setCell _ _ _ _ h2])
        · exact ((((hb.setCell (by simp) _).setCell (by simp) _).setCell (by simp) _).setCell (by simp) _).setCell (by simp) _
end Go.Proofs.YtefgompkpjeneaaGreatDoor
