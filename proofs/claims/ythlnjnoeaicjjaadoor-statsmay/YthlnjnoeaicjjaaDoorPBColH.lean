/-
  The reference's ColumnError: what it answers.
  Appending to nil whatever ints or values; OwnColumn.
  The reference's OwnColumn.
  shred.check: what it answers.
-/
import Derived.Test.YthlnjnoeaicjjaaDoorPBColB
import Derived.Test.YthlnjnoeaicjjaaDoorPSameInts
import Derived.Test.YthlnjnoeaicjjaaDoorPSmall
import Derived.Test.YthlnjnoeaicjjaaDoorPBRow4
import Derived.Test.YthlnjnoeaicjjaaDoorPBPackF
import Derived.Deep.RegionHeld3
import Derived.Test.YthlnjnoeaicjjaaDoorPRefVals
import Derived.BigQuiet
import Derived.Test.YthlnjnoeaicjjaaDoorPColD
namespace Go.Proofs.YthlnjnoeaicjjaaDoor
open Go.RowKit
theorem fitB_iff {lid mr md cid : Int} {rs ds : List Int} {nv : Nat} : fitB lid mr md cid rs ds nv = true ↔ cid = lid ∧ rs.length = ds.length ∧ headB rs = false ∧ (∀ x ∈ rs, btw 0 x mr = true) ∧ (∀ x ∈ ds, btw 0 x md = true) ∧ nv = cntE md ds := by
  unfold fitB
  by_cases h1 : cid ≠ lid ∨ rs.length ≠ ds.length
  · rw [if_pos h1]
    constructor
    · intro h; cases h
    · rintro ⟨a, b, _⟩; rcases h1 with h | h <;> contradiction
  · rw [if_neg h1]
    have h1' : cid = lid ∧ rs.length = ds.length := by
      constructor
      · exact Decidable.byContradiction fun h => h1 (.inl h)
      · exact Decidable.byContradiction fun h => h1 (.inr h)
    cases hh : headB rs
    · rw [if_neg (by simp)]
      by_cases h2 : (rs.any fun x => !(btw 0 x mr)) = true ∨ (ds.any fun x => !(btw 0 x md)) = true
      · rw [if_pos h2]
        constructor
        · intro h; cases h
        · rintro ⟨_, _, _, a, b, _⟩
          rcases h2 with h | h
          · obtain ⟨x, hx, he⟩ := List.any_eq_true.1 h
            rw [a x hx] at he; cases he
          · obtain ⟨x, hx, he⟩ := List.any_eq_true.1 h
            rw [b x hx] at he; cases he
      · rw [if_neg h2, decide_eq_true_iff]
        constructor
        · intro h
          refine ⟨h1'.1, h1'.2, rfl, fun x hx => ?_, fun x hx => ?_, h⟩
          · cases hb : btw 0 x mr
            · exact absurd (.inl (List.any_eq_true.2 ⟨x, hx, by rw [hb]; rfl⟩)) h2
            · rfl
          · cases hb : btw 0 x md
            · exact absurd (.inr (List.any_eq_true.2 ⟨x, hx, by rw [hb]; rfl⟩)) h2
            · rfl
        · exact fun h => h.2.2.2.2.2
    · rw [if_pos rfl]
      constructor
      · intro h; cases h
      · rintro ⟨_, _, h, _⟩; cases h
end Go.Proofs.YthlnjnoeaicjjaaDoor

namespace Go.Proofs.YthlnjnoeaicjjaaDoor
open Go.RowKit
theorem own_fresh {w : World} {base e size n : Nat} {v : Value} {xs : List Value} (h : w.ownsRow base e size v n xs) {a : Option Addr} {m c : Nat} (hv : v = .slice a m c) : ∀ p, a = some p → base ≤ p.block := by
  rintro p rfl
  rcases h.2 with ⟨h1, _⟩ | ⟨g, cap, cur, h1, hb, _⟩
  · rw [h1] at hv; simp at hv
  · rw [h1] at hv
    simp only [Value.slice.injEq, Option.some.injEq] at hv
    rw [← hv.1]; exact hb
theorem own_capJ {w : World} {B e size n : Nat} {a : Option Addr} {m c : Nat} {xs : List Value} (h : w.ownsRow B e size (.slice a m c) n xs) : n ≤ c := by
  rcases h.2 with ⟨e, rfl⟩ | ⟨g, cap, cur, e, _, _, hc, _⟩
  · exact Nat.zero_le _
  · injection e with _ e1 e2; subst e2; exact hc
theorem cell_off {w : World} {g j b o : Nat} {v : Value} (h : b ≠ g) : (w.setCell ⟨g, j, none⟩ v).cell? ⟨b, o, none⟩ = w.cell? ⟨b, o, none⟩ := by
  simp only [World.cell?]
  rw [Below.heap_setCell w ⟨g, j, none⟩ v b h]
theorem Lies.off {w : World} {a : Option Addr} {cs : List Value} (h : Lies w a cs) {g j : Nat} {v : Value} (hf : ∀ p, a = some p → g < p.block) : Lies (w.setCell ⟨g, j, none⟩ v) a cs := fun i hi => by
  obtain ⟨b, o, rfl, hc⟩ := h i hi
  exact ⟨b, o, rfl, by rw [cell_off (by have := hf _ rfl; simp at this; omega)]; exact hc⟩
theorem LiesV.off {w : World} {a : Option Addr} {vs : List Vl} (h : LiesV w a vs) {g j : Nat} {v : Value} (hf : ∀ p, a = some p → g < p.block) : LiesV (w.setCell ⟨g, j, none⟩ v) a vs := fun i hi => by
  obtain ⟨b, o, rfl, h0, h1, h2⟩ := h i hi
  have hne : b ≠ g := by have := hf _ rfl; simp at this; omega
  exact ⟨b, o, rfl, by rw [cell_off hne]; exact h0, by rw [cell_off hne]; exact h1, by rw [cell_off hne]; exact h2⟩
end Go.Proofs.YthlnjnoeaicjjaaDoor

namespace Go.Proofs.YthlnjnoeaicjjaaDoor
open Go.RowKit
theorem row_fourA {w : World} {g e : Nat} {x0 x1 x2 x3 : Value} (h : w.heap[g]? = some (.cells #[x0, x1, x2, x3] e (0, 0))) :
    w.frozen? ⟨g, 0, none⟩ = false ∧ w.frozen? ⟨g, 1, none⟩ = false ∧ w.frozen? ⟨g, 2, none⟩ = false ∧ w.frozen? ⟨g, 3, none⟩ = false := by
  refine ⟨?_, ?_, ?_, ?_⟩ <;> simp [World.frozen?, h]
structure OCs (W : World) (id : Int) (rv dv vv x1 x2 x3 : Value) (wr : World) : Prop where
  p : wr.heap[W.heap.size]? = some (.cells #[.int .i64 id, rv, dv, vv] 44 (0, 0))
  z : wr.heap[W.heap.size + 1]? = some (.cells #[.int .i64 0, .slice none 0 0, .slice none 0 0, .slice none 0 0] 44 (0, 0))
  o : wr.heap[W.heap.size + 1 + 1]? = some (.cells #[.int .i64 id, x1, x2, x3] 44 (0, 0))
  old : Below W.heap.size W wr
theorem OCs.keep {W : World} {id : Int} {rv dv vv x1 x2 x3 : Value} {wr w' : World} (h : OCs W id rv dv vv x1 x2 x3 wr) (hb : Below wr.heap.size wr w') : OCs W id rv dv vv x1 x2 x3 w' :=
  ⟨blk_keep hb h.p, blk_keep hb h.z, blk_keep hb h.o, h.old.trans (hb.mono h.old.size)⟩
theorem OCs.s1 {W : World} {id : Int} {rv dv vv x1 x2 x3 : Value} {wr : World} (h : OCs W id rv dv vv x1 x2 x3 wr) (v : Value) : OCs W id rv dv vv v x2 x3 (wr.setCell ⟨W.heap.size + 1 + 1, 1, none⟩ v) :=
  ⟨blk_other h.p (by omega) v, blk_other h.z (by omega) v, row_setCell h.o v, h.old.setCell (by simp; omega) _⟩
theorem OCs.s2 {W : World} {id : Int} {rv dv vv x1 x2 x3 : Value} {wr : World} (h : OCs W id rv dv vv x1 x2 x3 wr) (v : Value) : OCs W id rv dv vv x1 v x3 (wr.setCell ⟨W.heap.size + 1 + 1, 2, none⟩ v) :=
  ⟨blk_other h.p (by omega) v, blk_other h.z (by omega) v, row_setCell h.o v, h.old.setCell (by simp; omega) _⟩
theorem OCs.s3 {W : World} {id : Int} {rv dv vv x1 x2 x3 : Value} {wr : World} (h : OCs W id rv dv vv x1 x2 x3 wr) (v : Value) : OCs W id rv dv vv x1 x2 v (wr.setCell ⟨W.heap.size + 1 + 1, 3, none⟩ v) :=
  ⟨blk_other h.p (by omega) v, blk_other h.z (by omega) v, row_setCell h.o v, h.old.setCell (by simp; omega) _⟩
end Go.Proofs.YthlnjnoeaicjjaaDoor

namespace Go.Proofs.YthlnjnoeaicjjaaDoor
open Go.RowKit
theorem ckB {w w' : World} {g : Nat} {v : Value} (h : w.cell? ⟨g, 0, none⟩ = some v) (hb : Below w.heap.size w w') : w'.cell? ⟨g, 0, none⟩ = some v := (hb.cell (World.block_lt_of_cell? w _ h)).trans h
/-- Two boxes behind each other. -/
theorem two_boxes (W : World) (c1 c2 : Array Value) (t1 t2 : TypeId) : ∃ w0, Hid ((W.alloc (.cells c1 t1)).alloc (.cells c2 t2) = w0) ∧ Hid (w0.heap[W.heap.size]? = some (.cells c1 t1 (0, 0))) ∧ Hid (w0.heap[W.heap.size + 1]? = some (.cells c2 t2 (0, 0))) ∧ Hid (Below W.heap.size W w0) := by
  refine ⟨_, rfl, blk_alloc (heap_alloc_new W _), ?_, ((Below.refl _ _).alloc (Nat.le_refl _) _).alloc (by simp) _⟩
  have h := heap_alloc_new (W.alloc (.cells c1 t1)) (.cells c2 t2)
  rw [show (W.alloc (.cells c1 t1)).heap.size = W.heap.size + 1 by simp] at h
  exact h
/-- What shred.check answers. -/
def CkRet (N : Nat) (lid kind mr md cid : Int) (rs ds : List Int) (vs : List Vl) (sv kv : Value) (e : Ending) (w' : World) : Prop :=
  ((isLfB kind mr md && fitB lid mr md cid rs ds vs.length) = false ∧ e = .returned sv) ∨
  ((isLfB kind mr md && fitB lid mr md cid rs ds vs.length) = true ∧ (((∀ j (h : j < vs.length), badV kind vs[j] = false) ∧ e = .returned .nilIface) ∨
    ∃ p : Nat, ∃ hp : p < vs.length, badV kind vs[p] = true ∧ (∀ j (h : j < vs.length), j < p → badV kind vs[j] = false) ∧ ∃ q, N ≤ q ∧ e = .returned (.iface 76 (.pointer (some ⟨q, 0, none⟩))) ∧ w'.cell? ⟨q, 0, none⟩ = some (.int .i64 p) ∧ w'.cell? ⟨q, 1, none⟩ = some kv))
set_option maxRecDepth 100000 in
set_option maxHeartbeats 3200000 in
theorem scheck_any (lid kind mr md cid : Int) (pa ra da va : Option Addr) (pn pc rc dc vc : Nat) (rs ds : List Int) (vs : List Vl) (W : World) (st kt : TypeId) (sp kp : Value)
    (hn : rs.length ≤ 1048576) (hn2 : ds.length ≤ 1048576) (hv : vs.length ≤ 1048576) (hs : W.cell? ⟨3, 0, none⟩ = some (.iface st sp)) (hk : W.cell? ⟨1, 0, none⟩ = some (.iface kt kp))
    (hr : Lies W ra (i64s rs)) (hd : Lies W da (i64s ds)) (hvs : LiesV W va vs) :
    Calls Tryd.prog 30 #[leafV lid kind mr md pa pn pc, colV cid ra rs.length rc da ds.length dc va vs.length vc] W fun e w' => CkRet W.heap.size lid kind mr md cid rs ds vs (.iface st sp) (.iface kt kp) e w' ∧ Below W.heap.size W w' := by
  have hmf : ∀ (fn : Fn) (first cap : Array Value) (W : World), (Instr.makeFunc fn first cap).run Tryd.prog W = .ok (.func fn first cap) W := fun _ _ _ _ => rfl
  unfold leafV colV
  obtain ⟨w0, HW0, HX, HY, HB⟩ := two_boxes W #[.int .i64 lid, .int .i64 kind, .int .i64 mr, .int .i64 md, .slice pa pn pc] #[.int .i64 cid, .slice ra rs.length rc, .slice da ds.length dc, .slice va vs.length vc] 48 44
  have HR : Hid (Lies w0 ra (i64s rs)) := hr.keep HB.out
  have HD : Hid (Lies w0 da (i64s ds)) := hd.keep HB.out
  have HV : Hid (LiesV w0 va vs) := hvs.keep HB.out
  have HS : Hid (w0.cell? ⟨3, 0, none⟩ = some (.iface st sp)) := ckB hs HB.out
  have HK : Hid (w0.cell? ⟨1, 0, none⟩ = some (.iface kt kp)) := ckB hk HB.out
  clear hr hd hvs hs hk
  obtain ⟨b0, H0⟩ : ∃ b, Hid (isLfB kind mr md = b) := ⟨_, rfl⟩
  obtain ⟨b1, H1⟩ : ∃ b, Hid (fitB lid mr md cid rs ds vs.length = b) := ⟨_, rfl⟩
  go_enter Tryd.func30, Tryd.ntmps30
  go_wp2_with fail
  rw [HW0.out]
  refine (sIsLeaf_any lid kind mr md pa pn pc _).mono ?_
  rw [H0.out]
  rintro e w1 ⟨rfl, hb1⟩
  have HB1 : Hid (Below w0.heap.size w0 w1) := hb1
  clear hb1
  obtain ⟨⟨p0, p1, p2, p3, p4⟩, _⟩ := row_five (blk_keep HB1.out HX.out)
  obtain ⟨k0, k1, k2, k3⟩ := row_four (blk_keep HB1.out HY.out)
  have s1 := ckB HS.out HB1.out
  cases b0
  · go_wp2
    go_ret
    exact ⟨.inl ⟨by rw [H0.out]; rfl, rfl⟩, HB.out.trans (HB1.out.mono HB.out.size)⟩
  · go_wp2_with fail
    refine (sfits_any lid kind mr md pa pn pc cid ra rs rc da ds dc va vs.length vc hn hn2 w1 (HR.out.keep HB1.out) (HD.out.keep HB1.out)).mono ?_
    rw [H1.out]
    rintro e w2 ⟨rfl, hb2⟩
    have HB2 : Hid (Below w0.heap.size w0 w2) := HB1.out.trans (hb2.mono HB1.out.size)
    clear hb2 p0 p1 p2 p3 p4 k0 k1 k2 k3 s1
    obtain ⟨⟨p0, p1, p2, p3, p4⟩, _⟩ := row_five (blk_keep HB2.out HX.out)
    obtain ⟨k0, k1, k2, k3⟩ := row_four (blk_keep HB2.out HY.out)
    have s1 := ckB HS.out HB2.out
    cases b1
    · go_wp2
      go_ret
      exact ⟨.inl ⟨by rw [H0.out, H1.out]; rfl, rfl⟩, HB.out.trans (HB2.out.mono HB.out.size)⟩
    · go_wp2_with fail
      refine (idxV_any kind W.heap.size _ _ _ _ va vc vs hv w2 (blk_keep HB2.out HX.out) (HV.out.keep HB2.out)).mono ?_
      rintro e w3 ⟨⟨r, rfl, hr⟩, hb3⟩
      have HB3 : Hid (Below w0.heap.size w0 w3) := HB2.out.trans (hb3.mono HB2.out.size)
      have HI : Hid (Idx (badV kind) vs r) := hr
      clear hb3 p0 p1 p2 p3 p4 k0 k1 k2 k3 s1 hr
      have s2 := ckB HK.out HB3.out
      rcases HI.out with ⟨rfl, hall⟩ | ⟨p, hp, rfl, hbad, hf⟩
      · have HA : Hid _ := hall
        clear hall
        go_wp2
        go_ret
        exact ⟨.inr ⟨by rw [H0.out, H1.out]; rfl, .inl ⟨HA.out, rfl⟩⟩, HB.out.trans (HB3.out.mono HB.out.size)⟩
      · have HA : Hid _ := hbad
        have HF : Hid _ := hf
        clear hbad hf
        have q1 : decide ((0 : Int) ≤ (p : Int)) = true := by rw [decide_eq_true_iff]; omega
        go_wp2
        go_ret
        refine ⟨.inr ⟨by rw [H0.out, H1.out]; rfl, .inr ⟨p, hp, HA.out, fun j h hj => HF.out j hj, w3.heap.size, (HB.out.trans (HB3.out.mono HB.out.size)).size, rfl, ?_, ?_⟩⟩, (HB.out.trans (HB3.out.mono HB.out.size)).alloc (HB.out.trans (HB3.out.mono HB.out.size)).size _⟩
        · exact cell_alloc_at rfl rfl
        · exact cell_alloc_at rfl rfl
end Go.Proofs.YthlnjnoeaicjjaaDoor
