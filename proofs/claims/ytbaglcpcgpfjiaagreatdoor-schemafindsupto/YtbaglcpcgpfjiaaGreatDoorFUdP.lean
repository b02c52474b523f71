/-
  schema.Under: exact.
-/
import Derived.Test.YtbaglcpcgpfjiaaGreatDoorFFdP
import Derived.Test.YtbaglcpcgpfjiaaGreatDoorFBTameN
import Derived.Test.YtbaglcpcgpfjiaaGreatDoorFAppAny
import Derived.Test.YtbaglcpcgpfjiaaGreatDoorFLfM
namespace Go.Proofs.YtbaglcpcgpfjiaaGreatDoor
open Go.RowKit
set_option maxRecDepth 100000 in
set_option maxHeartbeats 1600000 in
theorem isLeafU_any (t : Tr) (a : Option Addr) (c : Nat) (W : World) : Calls Tryz.prog 25 #[nodeV t a c] W fun e w' => e = .returned (.bool (!(t.kind == 0))) ∧ Below W.heap.size W w' := by
  have HB : Hid (Below W.heap.size W (W.alloc (.cells #[.int .i64 t.id, .string t.nm, .int .i64 t.rep, .int .i64 t.kind, .slice a t.sub.length c] 24))) := (Below.refl _ _).alloc (Nat.le_refl _) _
  go_enter Tryz.func25, Tryz.ntmps25
  go_wp2
  go_ret
  exact ⟨rfl, HB.out⟩
/-- What the visitor holds: the leaves' numbers so far. -/
def UdI (g N : Nat) (s : List Int) (W : World) : Prop := ∃ lv, W.heap[g]? = some (.cells #[lv] 35 (0, 0)) ∧ W.ownsRow N 3 1 lv s.length (i64s s)
theorem UdI.stay {g N : Nat} {s : List Int} {W w' : World} (h : UdI g N s W) (h0 : w'.heap[g]? = W.heap[g]?) (hs : ∀ k cs, W.heap[k]? = some (.cells cs 3 (0, 0)) → N ≤ k → w'.heap[k]? = W.heap[k]?) : UdI g N s w' := by
  obtain ⟨lv, h1, h2⟩ := h
  refine ⟨lv, h0.trans h1, own_same h2 fun k hk => ?_⟩
  obtain ⟨q1, _, cs, q3⟩ := own_block h2 hk
  exact hs k cs q3 q1
set_option maxRecDepth 100000 in
set_option maxHeartbeats 3200000 in
theorem under1_any (g B Bw : Nat) (hB : B ≤ g) (hg : g < Bw) (s : List Int) (hls : s.length ≤ 1000000) (path : List Tr) (t : Tr) (a : Option Addr) (c : Nat) (v : Value) (W : World) (hi : UdI g Bw s W) (hp : PathR W B Bw v path) (hbw : Bw ≤ W.heap.size) :
    Calls Tryz.prog 24 #[nodeV t a c, v, .pointer (some ⟨g, 0, none⟩)] W fun e w' => e = .returned (.bool (stU s path t).1) ∧ ((stU s path t).1 = true → UdI g Bw (stU s path t).2 w') ∧ ((stU s path t).1 = false → True) ∧ VFr B Bw W w' := by
  obtain ⟨iv, hvi, hv0, hv1, hv2⟩ := info_parts Tryz.infoI
  obtain ⟨w0, HW0, HX, HB0⟩ := one_box W #[.int .i64 t.id, .string t.nm, .int .i64 t.rep, .int .i64 t.kind, .slice a t.sub.length c] 24
  obtain ⟨va, vc, rfl⟩ := hp.shape
  have HIL : Hid (∀ b, (!(t.kind == 0)) = b → Calls Tryz.prog 25 #[nodeV t a c] w0 fun e w' => e = .returned (.bool b) ∧ Below w0.heap.size w0 w') := fun b hb => hb ▸ isLeafU_any t a c w0
  have HI : Hid (UdI g Bw s W) := hi
  obtain ⟨⟨p0, p1, p2, p3, p4⟩, _⟩ := row_five HX.out
  clear hi hp
  by_cases hk : t.kind = 0
  · have HE : Hid (stU s path t = (true, s)) := (by show _ = _; rw [stU, if_pos hk])
    have HC : Hid _ := HIL.out false (by simp [hk])
    clear hk HIL
    unfold nodeV at *
    go_enter Tryz.func24, Tryz.ntmps24
    go_upto_region 1 with fail
    rw [HW0.out]
    go_wp2_with fail
    refine Calls.mono HC.out ?_
    rintro e w1 ⟨rfl, hb1⟩
    have HB1 : Hid (Below W.heap.size W w1) := HB0.out.trans (hb1.mono HB0.out.size)
    clear hb1 p0 p1 p2 p3 p4
    go_wp2
    go_ret
    rw [HE.out]
    exact ⟨rfl, fun _ => HI.out.stay (HB1.out.block g (by omega)) (fun k cs hk _ => HB1.out.block k (lt_of_block hk)), fun h => by simp at h, VFr.of_below HB1.out (by omega)⟩
  · have HE : Hid (stU s path t = (true, s ++ [t.id])) := (by show _ = _; rw [stU, if_neg hk])
    have HC : Hid _ := HIL.out true (by simp [hk])
    clear hk HIL
    unfold nodeV at *
    go_enter Tryz.func24, Tryz.ntmps24
    go_upto_region 1 with fail
    rw [HW0.out]
    go_wp2_with fail
    refine Calls.mono HC.out ?_
    rintro e w1 ⟨rfl, hb1⟩
    have HB1 : Hid (Below W.heap.size W w1) := HB0.out.trans (hb1.mono HB0.out.size)
    have HX1 : Hid (w1.heap[W.heap.size]? = some (.cells #[.int .i64 t.id, .string t.nm, .int .i64 t.rep, .int .i64 t.kind, .slice a t.sub.length c] 24 (0, 0))) := blk_keep hb1 HX.out
    clear hb1 HC p0 p1 p2 p3 p4
    obtain ⟨lv, hc, hrow⟩ := HI.out
    have HC1 : Hid (w1.heap[g]? = some (.cells #[lv] 35 (0, 0))) := blk_keep HB1.out hc
    have HR1 : Hid (w1.ownsRow Bw 3 1 lv s.length (i64s s)) := ow_kept hrow HB1.out
    obtain ⟨la, lc, rfl⟩ := own_slC hrow
    clear hc hrow
    obtain ⟨l0, lf0⟩ := row_one HC1.out
    obtain ⟨⟨p0, p1, p2, p3, p4⟩, _⟩ := row_five HX1.out
    have hgl := lt_of_block HC1.out
    have hs1 := HB1.out.size
    have l1 : ∀ ob : Obj, (w1.alloc ob).cell? ⟨g, 0, none⟩ = some (.slice la s.length lc) := fun ob => (((Below.refl w1.heap.size w1).alloc (Nat.le_refl _) ob).cell hgl).trans l0
    have HPut : Hid (∀ (w3 : World) (ob : Obj) (lv2 : Value), w3.ownsRow Bw 3 1 lv2 (s.length + 1) (i64s s ++ [.int .i64 t.id]) → (w1.alloc ob).grownBy w3 (Value.slice la s.length lc).ownBlock → UdI g Bw (s ++ [t.id]) (w3.setCell ⟨g, 0, none⟩ lv2) ∧ VFr B Bw W (w3.setCell ⟨g, 0, none⟩ lv2) ∧ w3.cell? ⟨g, 0, none⟩ = some (.slice la s.length lc) ∧ w3.frozen? ⟨g, 0, none⟩ = false) := fun w3 ob lv2 hown hgr => (by
      have hne : some g ≠ (Value.slice la s.length lc).ownBlock := own_type HR1.out HC1.out (by decide)
      have e3 : w3.heap[g]? = some (.cells #[.slice la s.length lc] 35 (0, 0)) := by
        rw [hgr.block g (by simp; omega) hne, heap_alloc_old w1 ob hgl]
        exact HC1.out
      have hset : ∀ k, k ≠ g → (w3.setCell ⟨g, 0, none⟩ lv2).heap[k]? = w3.heap[k]? := fun k hk => Below.heap_setCell _ ⟨g, 0, none⟩ _ _ hk
      have hown2 : w3.ownsRow Bw 3 1 lv2 (s ++ [t.id]).length (i64s (s ++ [t.id])) := by rw [i64s_app, List.length_append]; exact hown
      refine ⟨⟨lv2, row_setOne e3, own_same hown2 fun k hk => hset k ?_⟩, ?_, (row_one e3).1, (row_one e3).2⟩
      · have := (own_block hown2 hk).1; omega
      · have hv3 : VFr B Bw W (w1.alloc ob) := (VFr.of_below HB1.out (by omega)).alloc (by omega) ob
        refine VFr.setG (hv3.trans ⟨⟨hgr.os, hgr.tape, hgr.output, hgr.size, fun k hk => ?_⟩, fun k h1 h2 h3 => ?_⟩) hB hg lv2
        · exact hgr.block k (by simp; omega) (fun e => by have := (own_block HR1.out e.symm).1; omega)
        · obtain ⟨cs, z, hc⟩ := h3
          exact hgr.block k h2 fun e => own_type (HR1.out.alloc ob) hc (by decide) e)
    go_wp2_with (at_builtin; refine wpList_append_where _ rfl _ _ 35 rfl Bw 3 iv (.int .i64 0) 1 8 Tryz.underlying35 hvi hv0 hv1 hv2 rfl (by decide) (.slice la s.length lc) s.length (i64s s) rfl (HR1.out.alloc _) ⟨w1.heap.size, 0, none⟩ 1 1 [.int .i64 t.id] rfl rfl (cell_one_new _ _ _) (by intro u hu; simp at hu; subst hu; rfl) (by unfold maxLen; omega) (by omega) (by simp; omega) (by decide) ?_; intro l2 w3 hown3 hgrow3 _; obtain ⟨a9, c9, rfl⟩ := own_slC hown3; obtain ⟨n1, n2, n3, n4⟩ := HPut.out _ _ _ hown3 hgrow3; have HN1 : Hid _ := n1; have HN2 : Hid (VFr B Bw W (w3.setCell ⟨g, 0, none⟩ (.slice a9 (s.length + 1) c9))) := n2; clear n1 n2 hown3 hgrow3)
    go_ret
    rw [HE.out]
    exact ⟨rfl, fun _ => HN1.out, fun h => by simp at h, HN2.out⟩
/-- What Under answers of a right schema. -/
def UndR (t : Tr) (id : Int) (none_ : Value) (N : Nat) (e : Ending) (w' : World) : Prop :=
  (∃ x lv, (ndT t).find? (fun y => y.id == id) = some x ∧ e = .returned (.tuple #[lv, .nilIface]) ∧ w'.ownsRow N 3 1 lv (lfI (ndT x)).length (i64s (lfI (ndT x)))) ∨ ((ndT t).find? (fun y => y.id == id) = none ∧ e = .returned (.tuple #[.slice none 0 0, none_]))
set_option maxRecDepth 100000 in
set_option maxHeartbeats 3200000 in
theorem under_any (t : Tr) (n : Nat) (hd : t.Dp n) (hn : n ≤ 1000000) (hs : t.Sm) (hr : vldN t = 0) (hcn : t.cnt ≤ 1000) (id : Int) (a : Option Addr) (c : Nat) (P : Nat → Prop) (W : World) (hl : LiesN W P a t.sub) (hcap : t.sub.length ≤ c) (eb es en eo : TypeId × Value) (he : Er3 W eb es en) (hgo : W.cell? ⟨0, 0, none⟩ = some (.iface eo.1 eo.2)) :
    Calls Tryz.prog 10 #[nodeV t a c, .int .i64 id] W fun e w' => UndR t id (.iface eo.1 eo.2) W.heap.size e w' ∧ Below W.heap.size W w' := by
  obtain ⟨w0, HW0, HX, HB⟩ := one_box W #[.int .i64 t.id, .string t.nm, .int .i64 t.rep, .int .i64 t.kind, .slice a t.sub.length c] 24
  have HF : Hid _ := find_any t n hd (by omega) hs hr id a c P w0 (hl.keep HB.out) hcap eb es en eo (he.keep HB.out) ((HB.out.cell (World.block_lt_of_cell? W _ hgo)).trans hgo)
  have HSm : Hid t.Sm := hs
  have HD : Hid (t.Dp n) := hd
  obtain ⟨⟨p0, p1, p2, p3, p4⟩, _⟩ := row_five HX.out
  clear hl hd hs he hgo hr
  unfold nodeV at *
  go_enter Tryz.func10, Tryz.ntmps10
  go_upto_region 1 with fail
  rw [HW0.out]
  go_wp2_with fail
  refine Calls.mono HF.out ?_
  rintro e w1 ⟨hfr, hb1⟩
  have HB1 : Hid (Below W.heap.size W w1) := HB.out.trans (hb1.mono HB.out.size)
  clear hb1 p0 p1 p2 p3 p4 HF
  rcases hfr with ⟨x, xa, xc, hf, rfl, hxl, hxc⟩ | ⟨hf, rfl⟩
  · have HFn : Hid ((ndT t).find? (fun y => y.id == id) = some x) := hf
    obtain ⟨k1, k2, k3⟩ := nd_in (SizeOf.sizeOf t + 1) t (Nat.lt_succ_self _) x (List.mem_of_find?_eq_some hf)
    have HxS : Hid x.Sm := k3 HSm.out
    have HxD : Hid (x.Dp n) := k2 n HD.out
    have hxn : x.cnt ≤ 1000 := by omega
    obtain ⟨w2, HW2, HY, HU, HB2⟩ := two_boxesS w1 #[.int .i64 x.id, .string x.nm, .int .i64 x.rep, .int .i64 x.kind, .slice xa x.sub.length xc] #[.slice none 0 0] 24 35
    have hsz2 : w2.heap.size = w1.heap.size + 2 := by rw [← HW2.out]; simp
    have hsz := HB1.out.size
    have HC : Hid _ := wkU_any stU (UdI (w1.heap.size + 1) (w1.heap.size + 2)) (fun _ _ => True) (fun _ _ => True) (fun s => s.length) 1000 (w1.heap.size + 1) (w1.heap.size + 1) (w1.heap.size + 2) (by omega)
      (fun s W' w' r hi hg hr => hi.stay (hg.block _ (by obtain ⟨_, h, _⟩ := hi; exact lt_of_block h) (fun e => by have := (hr _ e.symm).1; omega)) (fun k cs hk hN => hg.block k (lt_of_block hk) fun e2 => by
        obtain ⟨_, cs', z, h3⟩ := hr k e2.symm
        rw [h3] at hk
        injection hk with hk
        injection hk with _ hk _
        exact absurd hk (by decide)))
      (fun path t hq j hj => trivial) (fun s path t => by simp only [stU]; split <;> simp)
      (fun s path t a c v W' hq hm h1 h2 h3 hcap h4 h5 => under1_any (w1.heap.size + 1) (w1.heap.size + 1) (w1.heap.size + 2) (Nat.le_refl _) (by omega) s (by omega) path t a c v W' h1 h2 h5)
      n x HxD.out HxS.out [] [] xa xc (.slice none 0 0) w2 trivial (by simpa using hxn) (by simp; omega)
      ⟨_, HU.out, World.ownsRow_nil _ _ _ _⟩ (PathR.nil _ _ _) (hxl.stay (fun b _ h => by omega) (fun b _ h => HB2.out.block b h)) hxc (by omega)
    obtain ⟨⟨q0, q1, q2, q3, q4⟩, _⟩ := row_five HY.out
    clear hf hxl k1 k2 k3
    unfold nodeV at *
    go_upto_region 5 with fail
    rw [HW2.out]
    go_wp2_with fail
    refine Calls.mono HC.out ?_
    rintro e w3 ⟨rfl, hi2, _, hf2, _⟩
    have hT := wkU_T x [] []
    rw [hT] at hi2
    obtain ⟨lv, hc2, hlv⟩ := hi2 rfl
    rw [List.nil_append] at hlv
    have HB3 : Hid (Below W.heap.size W w3) := (HB1.out.trans (HB2.out.mono hsz)).trans (hf2.below.mono (by omega))
    have HLv : Hid (w3.ownsRow W.heap.size 3 1 lv (lfI (ndT x)).length (i64s (lfI (ndT x)))) := ⟨hlv.1, hlv.2.imp (fun h => h) (fun ⟨g, cap, cur, e1, e2, e3⟩ => ⟨g, cap, cur, e1, by omega, e3⟩)⟩
    obtain ⟨z0, _⟩ := row_one hc2
    rw [hT]
    clear hi2 hf2 hlv hc2 HC q0 q1 q2 q3 q4 hT
    go_wp2
    go_ret2
    exact ⟨.inl ⟨x, lv, HFn.out, rfl, HLv.out⟩, HB3.out⟩
  · have HFn : Hid ((ndT t).find? (fun y => y.id == id) = none) := hf
    have HB2 : Hid (∀ ob, Below W.heap.size W (w1.alloc ob)) := fun ob => HB1.out.alloc HB1.out.size ob
    clear hf
    go_wp2
    go_ret2
    exact ⟨.inr ⟨HFn.out, rfl⟩, HB2.out _⟩
set_option maxRecDepth 100000 in
set_option maxHeartbeats 3200000 in
theorem under_err (t : Tr) (n : Nat) (hd : t.Dp n) (hn : n ≤ 1100000) (hs : t.Sm) (id : Int) (a : Option Addr) (c : Nat) (P : Nat → Prop) (W : World) (hl : LiesN W P a t.sub) (hcap : t.sub.length ≤ c) (eb es en : TypeId × Value) (he : Er3 W eb es en) (ty : TypeId) (v : Value) (hx : vldV (.iface eb.1 eb.2) (.iface es.1 es.2) (.iface en.1 en.2) t = .iface ty v) :
    Calls Tryz.prog 10 #[nodeV t a c, .int .i64 id] W fun e w' => e = .returned (.tuple #[.slice none 0 0, .iface ty v]) ∧ Below W.heap.size W w' := by
  obtain ⟨w0, HW0, HX, HB⟩ := one_box W #[.int .i64 t.id, .string t.nm, .int .i64 t.rep, .int .i64 t.kind, .slice a t.sub.length c] 24
  have HF : Hid _ := find_err t n hd hn hs id a c P w0 (hl.keep HB.out) hcap eb es en (he.keep HB.out) ty v hx
  obtain ⟨⟨p0, p1, p2, p3, p4⟩, _⟩ := row_five HX.out
  clear hl hd hs he hx
  unfold nodeV at *
  go_enter Tryz.func10, Tryz.ntmps10
  go_upto_region 1 with fail
  rw [HW0.out]
  go_wp2_with fail
  refine Calls.mono HF.out ?_
  rintro e w1 ⟨rfl, hb1⟩
  have HB1 : Hid (Below W.heap.size W w1) := HB.out.trans (hb1.mono HB.out.size)
  have HB2 : Hid (∀ ob, Below W.heap.size W (w1.alloc ob)) := fun ob => HB1.out.alloc HB1.out.size ob
  clear hb1 p0 p1 p2 p3 p4 HF
  go_wp2
  go_ret2
  exact ⟨rfl, HB2.out _⟩
end Go.Proofs.YtbaglcpcgpfjiaaGreatDoor
