/-
  The reference's SameInts: whether two slices of ints hold the same numbers.
  The reference's SameInts of two slices, wherever they lie.
  Whatever is appended to a row of the call's own.
  slices.Clone of numbers.
-/
import Derived.Test.YtgpfmjbebfmmnaaGreatDoorRows
import Derived.WalkKit
import Derived.WalkSpells
import Derived.WalkLawsBesides
import Derived.RegionTactic
import Derived.Below
import Derived.Test.YtgpfmjbebfmmnaaGreatDoorPBPack
import Derived.Test.YtgpfmjbebfmmnaaGreatDoorPAppWhere
import Derived.Test.YtgpfmjbebfmmnaaGreatDoorPOwn
namespace Go.Proofs.YtgpfmjbebfmmnaaGreatDoor
open Go.RowKit
def IntsAt (w : World) (v : Value) (xs : List Int) : Prop :=
 (v = .slice none 0 0 ∧ xs = []) ∨ ∃ b o cap, v = .slice (some ⟨b, o, none⟩) xs.length cap ∧ ∀ j (h : j < xs.length), w.cell? ⟨b, o + j, none⟩ = some (.int .i64 xs[j])
theorem IntsAt.keep {w w' : World} {v : Value} {xs : List Int} (h : IntsAt w v xs) (hb : Below w.heap.size w w') : IntsAt w' v xs := by
 rcases h with h | ⟨b, o, cap, e, hc⟩
 · exact Or.inl h
 · exact Or.inr ⟨b, o, cap, e, fun j hj => (hb.cell (World.block_lt_of_cell? w _ (hc j hj))).trans (hc j hj)⟩
theorem ret_bool' {a b : Bool} (h : a = b) : Ending.returned (.bool a) = .returned (.bool b) := by rw [h]
theorem not_same_len {xs ys : List Int} (h : xs.length ≠ ys.length) : false = decide (xs = ys) := by
 symm; rw [decide_eq_false_iff_not]; rintro rfl; exact h rfl
theorem not_same_at {xs ys : List Int} {k : Nat} (h1 : k < xs.length) (h2 : k < ys.length) (h : xs[k] ≠ ys[k]) : false = decide (xs = ys) := by
 symm; rw [decide_eq_false_iff_not]; rintro rfl; exact h rfl
theorem same_all {xs ys : List Int} (hl : xs.length = ys.length) (h : ∀ j (h1 : j < xs.length) (h2 : j < ys.length), xs[j] = ys[j]) : true = decide (xs = ys) := by
 symm; rw [decide_eq_true_iff]; exact List.ext_getElem hl h
set_option maxHeartbeats 800000 in
theorem sameInts_loop (w : World) (b1 o1 c1 b2 o2 c2 : Nat) (xs ys : List Int) (hl : xs.length = ys.length) (hm : xs.length ≤ maxLen)
    (h1 : ∀ j (h : j < xs.length), w.cell? ⟨b1, o1 + j, none⟩ = some (.int .i64 xs[j])) (h2 : ∀ j (h : j < ys.length), w.cell? ⟨b2, o2 + j, none⟩ = some (.int .i64 ys[j])) :
    Calls Tryz.prog 41 #[.slice (some ⟨b1, o1, none⟩) xs.length c1, .slice (some ⟨b2, o2, none⟩) ys.length c2] w fun e w' => e = .returned (.bool (decide (xs = ys))) ∧ Below w.heap.size w w' := by
 unfold maxLen at hm
 rw [← hl]
 have HL : Hid (xs.length = ys.length) := hl
 have HW : Hid (∀ j (h : j < xs.length), w.cell? ⟨b1, o1 + j, none⟩ = some (.int .i64 xs[j])) := h1
 have HY : Hid (∀ j (h : j < ys.length), w.cell? ⟨b2, o2 + j, none⟩ = some (.int .i64 ys[j])) := h2
 clear hl h1 h2
 go_enter Tryz.func41, Tryz.ntmps41
 go_wp2
 go_loopw [5] (fun x wr => ∃ k : Nat, k ≤ xs.length ∧ x = .int .i64 k ∧ Hid (∀ j (h1 : j < xs.length) (h2 : j < ys.length), j < k → xs[j] = ys[j]) ∧ Below w.heap.size w wr) (fun x _ => xs.length - (intOf x).toNat)
 case atStart => exact ⟨0, Nat.zero_le _, rfl, fun j _ _ h => absurd h (Nat.not_lt_zero _), Below.refl _ _⟩
 case round =>
  obtain ⟨k, hk, rfl, HP, hb⟩ := hrel
  by_cases hlt : k < xs.length
  · have hlt2 : k < ys.length := by rw [← HL.out]; exact hlt
    have d1 := HW.out k hlt
    have d2 := HY.out k hlt2
    have e1 := (hb.cell (World.block_lt_of_cell? w _ d1)).trans d1
    have e2 := (hb.cell (World.block_lt_of_cell? w _ d2)).trans d2
    clear d1 d2
    by_cases hv : xs[k] = ys[k]
    · have HV : Hid (xs[k] = ys[k]) := hv
      have hbne : (xs[k] != ys[k]) = false := by simpa using hv
      clear hv
      go_wp2
      go_region
      all_goals (try go_wp2)
      all_goals go_roundw
      all_goals first
       | (exact ⟨k + 1, by omega, by go_num, fun j h1 h2 hj => if e : j = k then (by subst e; exact HV.out) else HP.out j h1 h2 (by omega), hb.drew⟩)
       | (simp [intOf]; omega)
    · have hbne : (xs[k] != ys[k]) = true := by simpa using hv
      have HV : Hid (xs[k] ≠ ys[k]) := hv
      clear hv
      go_wp2
      go_region
      all_goals (try go_wp2)
      all_goals go_ret
      all_goals exact ⟨ret_bool' (not_same_at hlt hlt2 HV.out), hb.drew⟩
  · go_wp2
    go_ret
    exact ⟨ret_bool' (same_all HL.out (fun j h1 h2 => HP.out j h1 h2 (by omega))), hb⟩
set_option maxHeartbeats 800000 in
theorem sameInts_len (w : World) (a1 a2 : Option Addr) (n1 c1 n2 c2 : Nat) (hl : n1 ≠ n2) :
    Calls Tryz.prog 41 #[.slice a1 n1 c1, .slice a2 n2 c2] w fun e w' => e = .returned (.bool false) ∧ w' = w := by
 have hd : ((n1 : Int) != (n2 : Int)) = true := by simp; omega
 go_enter Tryz.func41, Tryz.ntmps41
 go_wp2
 go_ret
 exact ⟨rfl, rfl⟩
set_option maxHeartbeats 800000 in
theorem sameInts_empty (w : World) (a1 a2 : Option Addr) (c1 c2 : Nat) :
    Calls Tryz.prog 41 #[.slice a1 0 c1, .slice a2 0 c2] w fun e w' => e = .returned (.bool true) ∧ w' = w := by
 go_enter Tryz.func41, Tryz.ntmps41
 go_wp2
 refine wp_loop_rounds 1 ?_
 rw [rounds_succ]
 go_wp2
 go_ret
 exact ⟨rfl, rfl⟩
theorem sameInts_lies (w : World) (a1 a2 : Option Addr) (c1 c2 : Nat) (xs ys : List Int) (hm : xs.length ≤ maxLen) (h1 : Lies w a1 (i64s xs)) (h2 : Lies w a2 (i64s ys)) {b : Bool} (hb : decide (xs = ys) = b) :
    Calls Tryz.prog 41 #[.slice a1 xs.length c1, .slice a2 ys.length c2] w fun e w' => e = .returned (.bool b) ∧ Below w.heap.size w w' := by
 subst hb
 by_cases hl : xs.length = ys.length
 · by_cases h0 : xs.length = 0
   · have e1 : xs = [] := List.eq_nil_of_length_eq_zero h0
     have e2 : ys = [] := List.eq_nil_of_length_eq_zero (by omega)
     subst e1 e2
     refine (sameInts_empty w a1 a2 c1 c2).mono ?_
     rintro e w' ⟨rfl, rfl⟩
     exact ⟨rfl, Below.refl _ _⟩
   · obtain ⟨b1, o1, rfl, _⟩ := h1 0 (by simp [i64s]; omega)
     obtain ⟨b2, o2, rfl, _⟩ := h2 0 (by simp [i64s]; omega)
     refine sameInts_loop w b1 o1 c1 b2 o2 c2 xs ys hl hm (fun j h => ?_) (fun j h => ?_)
     · obtain ⟨b, o, e, hc⟩ := h1 j (by simpa [i64s] using h)
       simp only [Option.some.injEq, Addr.mk.injEq] at e
       obtain ⟨rfl, rfl, _⟩ := e
       rw [hc]; simp [i64s]
     · obtain ⟨b, o, e, hc⟩ := h2 j (by simpa [i64s] using h)
       simp only [Option.some.injEq, Addr.mk.injEq] at e
       obtain ⟨rfl, rfl, _⟩ := e
       rw [hc]; simp [i64s]
 · refine (sameInts_len w a1 a2 xs.length c1 ys.length c2 hl).mono ?_
   rintro e w' ⟨rfl, rfl⟩
   exact ⟨ret_bool' (not_same_len hl), Below.refl _ _⟩
theorem own_slC {w : World} {B e size n : Nat} {v : Value} {xs : List Value} (h : w.ownsRow B e size v n xs) : ∃ a c, v = .slice a n c := by
 rcases h.2 with ⟨rfl, rfl⟩ | ⟨g, cap, cur, rfl, _⟩
 · exact ⟨none, 0, rfl⟩
 · exact ⟨_, cap, rfl⟩
theorem own_cap {w : World} {B e size n : Nat} {a : Option Addr} {m c : Nat} {xs : List Value} (h : w.ownsRow B e size (.slice a m c) n xs) : m = n ∧ n ≤ c := by
 rcases h.2 with ⟨e, rfl⟩ | ⟨g, cap, cur, e, _, _, hc, _⟩
 · injection e with _ e1 e2; subst e1 e2; exact ⟨rfl, Nat.le_refl _⟩
 · injection e with _ e1 e2; subst e1 e2; exact ⟨rfl, hc⟩
section
variable {P : Program}
theorem run_append_zero (w : World) (t ty e : TypeId) (i : TypeInfo) (ht : P.underlying t = some (.slice e)) (hi : P.info? e = some i) (a : Option Addr) (n c : Nat) (hc : n ≤ c) (b : Option Addr) (d : Nat) :
    (Builtin.append_ #[t, t] ty #[.slice a n c, .slice b 0 d]).run P w = .ok (.slice a n c) w := by
 cases a <;> cases b <;> simp [Builtin.append_, run_underlying ht, sizeOf, typeInfo, hi, Builtin.lenOf, Builtin.firstCells, hc, storeCells, loadCells, loadCellsFrom]
theorem run_append_any (w : World) (base : Nat) (t ty e : TypeId) (i : TypeInfo) (z : Value) (size bytes : Nat) (ht : P.underlying t = some (.slice e)) (hi : P.info? e = some i) (hz : i.zero = some z)
    (hsize : i.size = size) (hby : i.bytes = bytes) (hzs : z.cells.size = size) (hsz : 0 < size)
    (v : Value) (n : Nat) (xs : List Value) (hown : w.ownsRow base e size v n xs)
    (ad : Option Addr) (m c : Nat) (news : List Value) (hl : news.length = m * size) (hnews : ∀ j u, news[j]? = some u → ∃ a, ad = some a ∧ w.cell? (a.add j) = some u) (h1 : ∀ u ∈ news, u.oneCell' = true)
    (h63 : n + m ≤ maxLen) (hbytes : (n + m) * bytes ≤ 140737488355328) (hbase : base ≤ w.heap.size) :
    ∃ v' w', (Builtin.append_ #[t, t] ty #[v, .slice ad m c]).run P w = .ok v' w' ∧ w'.ownsRow base e size v' (n + m) (xs ++ news) ∧ w.grownBy w' v.ownBlock ∧
     (v'.ownBlock = v.ownBlock ∨ v'.ownBlock = some w.heap.size) := by
 by_cases hm : 0 < m
 · have hp : 0 < news.length := by rw [hl]; exact Nat.mul_pos hm hsz
   obtain ⟨a, rfl, _⟩ := hnews 0 _ (List.getElem?_eq_getElem hp)
   obtain ⟨v', w', hr, h2, h3, h4⟩ := run_append_where (P := P) w base t ty e i z size bytes ht hi hz hsize hby hzs hsz v n xs hown a m c news hl (fun j u hu => by obtain ⟨a', e, h⟩ := hnews j u hu; injection e with e; subst e; exact h) h1 h63 hbytes hbase hm
   exact ⟨v', w', hr, h2, h3, h4.imp And.left id⟩
 · obtain rfl : m = 0 := by omega
   obtain rfl : news = [] := List.eq_nil_of_length_eq_zero (by rw [hl]; simp)
   obtain ⟨a, k, rfl⟩ := own_slC hown
   exact ⟨.slice a n k, w, run_append_zero w t ty e i ht hi a n k (own_cap hown).2 ad c, by simpa using hown, ⟨rfl, rfl, rfl, Nat.le_refl _, fun _ _ _ => rfl⟩, .inl rfl⟩
theorem wpList_append_any {ops : Array Oper} {rest : List Oper} {o : Oper} {a : Act} {Q : Exit → Act → World → Prop} (w : World) (hgd : o.guard = none) (s x : Operand) (t : TypeId)
    (ho : o.op = .call { callee := .builtin .append, args := #[s, x], argTypes := #[t, t] })
    (base : Nat) (e : TypeId) (i : TypeInfo) (z : Value) (size bytes : Nat) (ht : P.underlying t = some (.slice e)) (hi : P.info? e = some i) (hz : i.zero = some z)
    (hsize : i.size = size) (hby : i.bytes = bytes) (hzs : z.cells.size = size) (hsz : 0 < size)
    (v : Value) (n : Nat) (xs : List Value) (hs : a.eval s = v) (hown : w.ownsRow base e size v n xs)
    (ad : Option Addr) (m c : Nat) (news : List Value) (hx : a.eval x = .slice ad m c) (hl : news.length = m * size) (hnews : ∀ j u, news[j]? = some u → ∃ a, ad = some a ∧ w.cell? (a.add j) = some u) (h1 : ∀ u ∈ news, u.oneCell' = true)
    (h63 : n + m ≤ maxLen) (hbytes : (n + m) * bytes ≤ 140737488355328) (hbase : base ≤ w.heap.size)
    (h : ∀ v' w', w'.ownsRow base e size v' (n + m) (xs ++ news) → w.grownBy w' v.ownBlock → (v'.ownBlock = v.ownBlock ∨ v'.ownBlock = some w.heap.size) → wpList P ops Q rest (a.put o.dst v') w') : wpList P ops Q (o :: rest) a w :=
 wpList_plain hgd fun K hK => by
  obtain ⟨v', w', hr, h2, h3, h4⟩ := run_append_any (P := P) w base t o.type e i z size bytes ht hi hz hsize hby hzs hsz v n xs hown ad m c news hl hnews h1 h63 hbytes hbase
  unfold Oper.wp execOp
  simp only [ho, resolve, invoke, builtin, Sem.run_bind, Sem.run_pure, Result.andThen_ok, List.map_toArray, List.map_cons, List.map_nil, hs, hx, hr]
  exact hK _ _ (h v' w' h2 h3 h4)
theorem step_append_any {ops : Array Oper} {o : Oper} {a : Act} {K : Act → World → Prop} {Q : Exit → Act → World → Prop} {E : Prop} (w : World) (hgd : o.guard = none) (s x : Operand) (t : TypeId)
    (ho : o.op = .call { callee := .builtin .append, args := #[s, x], argTypes := #[t, t] })
    (base : Nat) (e : TypeId) (i : TypeInfo) (z : Value) (size bytes : Nat) (ht : P.underlying t = some (.slice e)) (hi : P.info? e = some i) (hz : i.zero = some z)
    (hsize : i.size = size) (hby : i.bytes = bytes) (hzs : z.cells.size = size) (hsz : 0 < size)
    (v : Value) (n : Nat) (xs : List Value) (hs : a.eval s = v) (hown : w.ownsRow base e size v n xs)
    (ad : Option Addr) (m c : Nat) (news : List Value) (hx : a.eval x = .slice ad m c) (hl : news.length = m * size) (hnews : ∀ j u, news[j]? = some u → ∃ a, ad = some a ∧ w.cell? (a.add j) = some u) (h1 : ∀ u ∈ news, u.oneCell' = true)
    (h63 : n + m ≤ maxLen) (hbytes : (n + m) * bytes ≤ 140737488355328) (hbase : base ≤ w.heap.size)
    (h : ∀ v' w', w'.ownsRow base e size v' (n + m) (xs ++ news) → w.grownBy w' v.ownBlock → (v'.ownBlock = v.ownBlock ∨ v'.ownBlock = some w.heap.size) → K (a.put o.dst v') w') :
    if Region.wanted o (yielded ops a.tmps) = true then Oper.wp P o a w K Q else E := by
 have hw : Region.wanted o (yielded ops a.tmps) = true := by simp [Region.wanted, hgd]
 rw [if_pos hw]
 obtain ⟨v', w', hr, h2, h3, h4⟩ := run_append_any (P := P) w base t o.type e i z size bytes ht hi hz hsize hby hzs hsz v n xs hown ad m c news hl hnews h1 h63 hbytes hbase
 unfold Oper.wp execOp
 simp only [ho, resolve, invoke, builtin, Sem.run_bind, Sem.run_pure, Result.andThen_ok, List.map_toArray, List.map_cons, List.map_nil, hs, hx, hr]
 exact h v' w' h2 h3 h4
end
theorem news_i {w : World} {ad : Option Addr} {xs : List Int} (hl : Lies w ad (i64s xs)) : ∀ j u, (i64s xs)[j]? = some u → ∃ a, ad = some a ∧ w.cell? (a.add j) = some u := fun j u hu => by
 obtain ⟨hj, rfl⟩ := List.getElem?_eq_some_iff.1 hu
 obtain ⟨b, o, e, hc⟩ := hl j hj
 exact ⟨_, e, by rw [addr_add]; exact hc⟩
theorem one_i (xs : List Int) : ∀ u ∈ i64s xs, u.oneCell' = true := fun u hu => by obtain ⟨x, _, rfl⟩ := List.mem_map.1 hu; rfl
theorem i64s_app (xs ys : List Int) : i64s (xs ++ ys) = i64s xs ++ i64s ys := by simp [i64s]
set_option maxRecDepth 100000 in
set_option maxHeartbeats 3200000 in
theorem cloneI_any (a : Option Addr) (c : Nat) (xs : List Int) (w : World) (hn : xs.length ≤ 20000) (h0 : 0 < xs.length) (h : Lies w a (i64s xs)) :
    Calls Tryz.prog (165) #[.slice a xs.length c] w fun e w' => (∃ v, e = .returned v ∧ w'.ownsRow w.heap.size 3 1 v xs.length (i64s xs)) ∧ Below w.heap.size w w' := by
 obtain ⟨iv, hvi, hv0, hv1, hv2⟩ := info_parts Tryz.info3
 obtain ⟨b, o, rfl, _⟩ := h 0 (by simpa [i64s] using h0)
 have hb0 : Below w.heap.size w (w.alloc (.cells #[] 3)) := (Below.refl _ _).alloc (Nat.le_refl _) _
 have HL : Hid (Lies (w.alloc (.cells #[] 3)) (some ⟨b, o, none⟩) (i64s xs)) := h.keep hb0
 have HB0 : Hid (Below w.heap.size w (w.alloc (.cells #[] 3))) := hb0
 have HO : Hid ((w.alloc (.cells #[] 3)).ownsRow w.heap.size 3 1 (.slice (some ⟨w.heap.size, 0, none⟩) 0 0) 0 []) := World.ownsRow_made w #[] 0 (Nat.le_refl _) (by unfold maxLen; omega) rfl
 have hbe : ∀ W : World, (binOp .eql 22 (.slice (some ⟨b, o, none⟩) xs.length c) (.slice none 0 0)).run Tryz.prog W = .ok (.bool false) W := fun _ => by kernel_rfl
 clear h hb0
 go_enter Tryz.func165, Tryz.ntmps165
 go_wp2_with (at_builtin; (refine wpList_append_any _ rfl _ _ 22 rfl w.heap.size 3 iv (.int .i64 0) 1 8 Tryz.underlying22 hvi hv0 hv1 hv2 rfl (by decide) (.slice (some ⟨w.heap.size, 0, none⟩) 0 0) 0 [] rfl HO.out (some ⟨b, o, none⟩) _ c (i64s xs) rfl (by rw [i64s_len, Nat.mul_one]) (news_i HL.out) (one_i _) (by unfold maxLen; omega) (by omega) (by simp) ?_); intro l2 w4 hown4 hgr4 _)
 have HW : Hid (w4.ownsRow w.heap.size 3 1 l2 xs.length (i64s xs)) := (by show World.ownsRow _ _ _ _ _ _ _; rw [List.nil_append, Nat.zero_add] at hown4; exact hown4)
 have HB : Hid (Below w.heap.size w w4) := HB0.out.grown hgr4 (by simp) (fun k hk => by simp [Value.ownBlock] at hk; omega)
 clear hown4 hgr4
 go_wp2
 go_ret
 exact ⟨⟨l2, rfl, HW.out⟩, HB.out⟩
end Go.Proofs.YtgpfmjbebfmmnaaGreatDoor
