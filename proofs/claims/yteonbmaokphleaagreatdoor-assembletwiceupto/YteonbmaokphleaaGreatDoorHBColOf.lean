/-
  shred.columnOf: the column of a leaf.
  shred.fits, where a level of Rep is outside.
-/
import Derived.Test.YteonbmaokphleaaGreatDoorHBWriter
import Derived.Deep.RegionLaw
import Derived.Deep.RegionHeld3
import Derived.Test.YteonbmaokphleaaGreatDoorHBRow4
import Derived.RegionTactic
namespace Go.Proofs.YteonbmaokphleaaGreatDoor
open Go.RowKit
theorem own_sl {w : World} {B e size n : Nat} {v : Value} {xs : List Value} (h : w.ownsRow B e size v n xs) : ∃ a c, v = .slice a n c := by
 rcases h.2 with ⟨rfl, rfl⟩ | ⟨g, cap, cur, rfl, _⟩
 · exact ⟨none, 0, rfl⟩
 · exact ⟨_, cap, rfl⟩
def ents (md : Nat) (sts : List Stp) (ds : List Dt) : List Ent := ds.flatMap fun d => dn md sts d 0
theorem ents_step (md : Nat) (sts : List Stp) (ds : List Dt) (i : Nat) (h : i < ds.length) : ents md sts (ds.take (i + 1)) = ents md sts (ds.take i) ++ dn md sts ds[i] 0 := by
 rw [ents, ents, List.take_succ_eq_append_getElem h, List.flatMap_append]
 simp
theorem ents_le (md : Nat) (sts : List Stp) (ds : List Dt) (i : Nat) : (ents md sts (ds.take i)).length ≤ (ents md sts ds).length := by
 have h : ents md sts ds = ents md sts (ds.take i) ++ ents md sts (ds.drop i) := by rw [ents, ents, ents, ← List.flatMap_append, List.take_append_drop]
 rw [h, List.length_append]
 omega
theorem StPath.len {t : Tr} {ids : List Int} {df ls : Nat} {sts : List Stp} (h : StPath t ids df ls sts) : sts.length = ids.length := by
 induction h with
 | nil => rfl
 | cons t id rest df ls i hi hid first sts more ih => simp [ih]
theorem row_fourF {w : World} {g e : Nat} {x0 x1 x2 x3 : Value} (h : w.heap[g]? = some (.cells #[x0, x1, x2, x3] e (0, 0))) : w.frozen? ⟨g, 0, none⟩ = false ∧ w.frozen? ⟨g, 1, none⟩ = false ∧ w.frozen? ⟨g, 2, none⟩ = false ∧ w.frozen? ⟨g, 3, none⟩ = false := by
 refine ⟨?_, ?_, ?_, ?_⟩ <;> simp [World.frozen?, h]
theorem set_six {w1 : World} {bx : Nat} {x0 x1 x2 x3 x4 x5 : Value} {T : TypeId} (h : w1.heap[bx]? = some (.cells #[x0, x1, x2, x3, x4, x5] T (0, 0))) (y0 y1 y2 y3 y4 y5 : Value) :
    OneNew bx (.cells #[y0, y1, y2, y3, y4, y5] T (0, 0)) w1 ((((((w1.setCell ⟨bx, 0, none⟩ y0).setCell ⟨bx, 1, none⟩ y1).setCell ⟨bx, 2, none⟩ y2).setCell ⟨bx, 3, none⟩ y3).setCell ⟨bx, 4, none⟩ y4).setCell ⟨bx, 5, none⟩ y5) := by
 have h0 : OneNew bx (.cells #[x0, x1, x2, x3, x4, x5] T (0, 0)) w1 w1 := ⟨rfl, rfl, rfl, rfl, h, fun _ _ => rfl⟩
 have h5 := (((((h0.set (j := 0) y0).set (j := 1) y1).set (j := 2) y2).set (j := 3) y3).set (j := 4) y4).set (j := 5) y5
 simpa using h5
theorem set_four {w1 : World} {bx : Nat} {x0 x1 x2 x3 : Value} {T : TypeId} (h : w1.heap[bx]? = some (.cells #[x0, x1, x2, x3] T (0, 0))) (y0 y1 y2 y3 : Value) :
    OneNew bx (.cells #[y0, y1, y2, y3] T (0, 0)) w1 ((((w1.setCell ⟨bx, 0, none⟩ y0).setCell ⟨bx, 1, none⟩ y1).setCell ⟨bx, 2, none⟩ y2).setCell ⟨bx, 3, none⟩ y3) := by
 have h0 : OneNew bx (.cells #[x0, x1, x2, x3] T (0, 0)) w1 w1 := ⟨rfl, rfl, rfl, rfl, h, fun _ _ => rfl⟩
 have h5 := (((h0.set (j := 0) y0).set (j := 1) y1).set (j := 2) y2).set (j := 3) y3
 simpa using h5
theorem results_ct {P : Program} {fn : Func} {p u : Tmp} {t1 : TypeId} (h : fn.results = #[.cell p t1, .tmp u]) (tmps : Array Value) (w : World) (a : Addr) (x : Value)
    (hp : tmps.getD p undef = .pointer (some a)) (hx : (loadVar t1 a).run P w = .ok x w) : (results fn tmps).run P w = .ok (.tuple #[x, tmps.getD u undef]) w := by
 have hp' : tmps[p]?.getD undef = .pointer (some a) := by simpa using hp
 simp [results, h, hp', asAddr, Result.andThen, hx]
set_option maxRecDepth 100000 in
theorem loadCol {W : World} {g : Nat} {x0 x1 x2 x3 : Value} (h0 : W.cell? ⟨g, 0, none⟩ = some x0) (h1 : W.cell? ⟨g, 1, none⟩ = some x1) (h2 : W.cell? ⟨g, 2, none⟩ = some x2) (h3 : W.cell? ⟨g, 3, none⟩ = some x3) : (loadVar 50 ⟨g, 0, none⟩).run Tryz.prog W = .ok (.agg #[x0, x1, x2, x3]) W := by go_simp
theorem CoS.begin {W' : World} {g N : Nat} {sa : Option Addr} {sc : Nat} {sts : List Stp} {md : Nat} {id : Int} (hc : W'.heap[g]? = some (.cells #[.slice sa sts.length sc, .int .i64 (md : Nat), .int .i64 id, .slice none 0 0, .slice none 0 0, .slice none 0 0] 95 (0, 0))) (hr : W'.ownsRow N 131 4 (.slice sa sts.length sc) sts.length (sts.flatMap stC)) : CoS g N (.slice sa sts.length sc) sts md id [] [] [] W' :=
 ⟨_, _, _, hc, hr, World.ownsRow_nil _ _ _ _, World.ownsRow_nil _ _ _ _, World.ownsRow_nil _ _ _ _, fun k hk => by simp [Value.ownBlock] at hk⟩
theorem own_low {W : World} {N N' e s n : Nat} {v : Value} {xs : List Value} (h : W.ownsRow N e s v n xs) (hN : N' ≤ N) : W.ownsRow N' e s v n xs := ⟨h.1, h.2.imp id (fun ⟨g, cap, cur, e1, e2, e3⟩ => ⟨g, cap, cur, e1, by omega, e3⟩)⟩
theorem row_sixA {w : World} {g e : Nat} {x0 x1 x2 x3 x4 x5 : Value} (h : w.heap[g]? = some (.cells #[x0, x1, x2, x3, x4, x5] e (0, 0))) :
    w.frozen? ⟨g, 0, none⟩ = false ∧ w.frozen? ⟨g, 1, none⟩ = false ∧ w.frozen? ⟨g, 2, none⟩ = false ∧ w.frozen? ⟨g, 3, none⟩ = false ∧ w.frozen? ⟨g, 4, none⟩ = false ∧ w.frozen? ⟨g, 5, none⟩ = false := by
 refine ⟨?_, ?_, ?_, ?_, ?_, ?_⟩ <;> simp [World.frozen?, h]
set_option maxRecDepth 100000 in
set_option maxHeartbeats 8000000 in
theorem columnOf_any (t : Tr) (hsm : t.Sm) (a : Option Addr) (c : Nat) (f : Lf) (hids : f.path.length ≤ 1000) (pa : Option Addr) (pc : Nat) (sts : List Stp) (ds : List Dt) (hds : ds.length ≤ 100) (da : Option Addr) (dc : Nat) (W : World) (hl : LiesN W (fun b => b < W.heap.size) a t.sub) (hp : Lies W pa (i64s f.path)) (hst : StPath t f.path 0 0 sts) (hld : LiesD W (fun b => b < W.heap.size) da ds)
    (hfit : ∀ j (h : j < ds.length), ds[j].Sm ∧ FitS sts ds[j]) (hmany : (ents f.md sts ds).length ≤ 20000) :
    Calls Tryz.prog 26 #[nodeV t a c, .agg #[.int .i64 f.id, .int .i64 f.kind, .int .i64 (f.mr : Nat), .int .i64 (f.md : Nat), .slice pa f.path.length pc], .slice da ds.length dc] W fun e w' => (∃ rv dv vv, e = .returned (.tuple #[.agg #[.int .i64 f.id, rv, dv, vv], .nilIface]) ∧ w'.ownsRow W.heap.size 3 1 rv (eR (ents f.md sts ds)).length (i64s (eR (ents f.md sts ds))) ∧ w'.ownsRow W.heap.size 3 1 dv (eD (ents f.md sts ds)).length (i64s (eD (ents f.md sts ds))) ∧ w'.ownsRow W.heap.size 54 3 vv (eV (ents f.md sts ds)).length (vcells (eV (ents f.md sts ds)))) ∧ Below W.heap.size W w' := by
 have hb3 : Below W.heap.size W (((W.alloc (.cells #[.int .i64 t.id, .string t.nm, .int .i64 t.rep, .int .i64 t.kind, .slice a t.sub.length c] 24)).alloc (.cells #[.int .i64 f.id, .int .i64 f.kind, .int .i64 (f.mr : Nat), .int .i64 (f.md : Nat), .slice pa f.path.length pc] 72)).alloc (.cells #[.int .i64 0, .slice none 0 0, .slice none 0 0, .slice none 0 0] 50)) := (((Below.refl _ _).alloc (Nat.le_refl _) _).alloc (by simp) _).alloc (by simp; omega) _
 have hb4 : Below W.heap.size W ((((W.alloc (.cells #[.int .i64 t.id, .string t.nm, .int .i64 t.rep, .int .i64 t.kind, .slice a t.sub.length c] 24)).alloc (.cells #[.int .i64 f.id, .int .i64 f.kind, .int .i64 (f.mr : Nat), .int .i64 (f.md : Nat), .slice pa f.path.length pc] 72)).alloc (.cells #[.int .i64 0, .slice none 0 0, .slice none 0 0, .slice none 0 0] 50)).alloc (.cells #[.slice none 0 0, .int .i64 0, .int .i64 0, .slice none 0 0, .slice none 0 0, .slice none 0 0] 95)) := hb3.alloc (by simp; omega) _
 have HA : Hid _ := stepsTo_any t hsm a c f.id f.kind f.mr f.md f.path hids pa pc sts (((W.alloc (.cells #[.int .i64 t.id, .string t.nm, .int .i64 t.rep, .int .i64 t.kind, .slice a t.sub.length c] 24)).alloc (.cells #[.int .i64 f.id, .int .i64 f.kind, .int .i64 (f.mr : Nat), .int .i64 (f.md : Nat), .slice pa f.path.length pc] 72)).alloc (.cells #[.int .i64 0, .slice none 0 0, .slice none 0 0, .slice none 0 0] 50)).drew ((hl.stay (fun b h _ => h) (fun b _ h => hb3.block b h)).stay (fun b h _ => by simp; omega) (fun _ _ _ => rfl)) ((hp.keep hb3.drew)) hst
 have HZ : Hid _ := stepsTo_any t hsm a c f.id f.kind f.mr f.md f.path hids pa pc sts ((((W.alloc (.cells #[.int .i64 t.id, .string t.nm, .int .i64 t.rep, .int .i64 t.kind, .slice a t.sub.length c] 24)).alloc (.cells #[.int .i64 f.id, .int .i64 f.kind, .int .i64 (f.mr : Nat), .int .i64 (f.md : Nat), .slice pa f.path.length pc] 72)).alloc (.cells #[.int .i64 0, .slice none 0 0, .slice none 0 0, .slice none 0 0] 50)).alloc (.cells #[.slice none 0 0, .int .i64 0, .int .i64 0, .slice none 0 0, .slice none 0 0, .slice none 0 0] 95)).drew ((hl.stay (fun b h _ => h) (fun b _ h => hb4.block b h)).stay (fun b h _ => by simp; omega) (fun _ _ _ => rfl)) ((hp.keep hb4.drew)) hst
 have HB3 : Hid (Below W.heap.size W (((W.alloc (.cells #[.int .i64 t.id, .string t.nm, .int .i64 t.rep, .int .i64 t.kind, .slice a t.sub.length c] 24)).alloc (.cells #[.int .i64 f.id, .int .i64 f.kind, .int .i64 (f.mr : Nat), .int .i64 (f.md : Nat), .slice pa f.path.length pc] 72)).alloc (.cells #[.int .i64 0, .slice none 0 0, .slice none 0 0, .slice none 0 0] 50))) := hb3
 have HB4 : Hid (Below W.heap.size W ((((W.alloc (.cells #[.int .i64 t.id, .string t.nm, .int .i64 t.rep, .int .i64 t.kind, .slice a t.sub.length c] 24)).alloc (.cells #[.int .i64 f.id, .int .i64 f.kind, .int .i64 (f.mr : Nat), .int .i64 (f.md : Nat), .slice pa f.path.length pc] 72)).alloc (.cells #[.int .i64 0, .slice none 0 0, .slice none 0 0, .slice none 0 0] 50)).alloc (.cells #[.slice none 0 0, .int .i64 0, .int .i64 0, .slice none 0 0, .slice none 0 0, .slice none 0 0] 95))) := hb4
 have HX3 : Hid ((((W.alloc (.cells #[.int .i64 t.id, .string t.nm, .int .i64 t.rep, .int .i64 t.kind, .slice a t.sub.length c] 24)).alloc (.cells #[.int .i64 f.id, .int .i64 f.kind, .int .i64 (f.mr : Nat), .int .i64 (f.md : Nat), .slice pa f.path.length pc] 72)).alloc (.cells #[.int .i64 0, .slice none 0 0, .slice none 0 0, .slice none 0 0] 50)).drew.heap[W.heap.size + 1]? = some (.cells #[.int .i64 f.id, .int .i64 f.kind, .int .i64 (f.mr : Nat), .int .i64 (f.md : Nat), .slice pa f.path.length pc] 72 (0, 0))) := (by
  have h := heap_alloc_new (W.alloc (.cells #[.int .i64 t.id, .string t.nm, .int .i64 t.rep, .int .i64 t.kind, .slice a t.sub.length c] 24)) (.cells #[.int .i64 f.id, .int .i64 f.kind, .int .i64 (f.mr : Nat), .int .i64 (f.md : Nat), .slice pa f.path.length pc] 72)
  rw [show (W.alloc (.cells #[.int .i64 t.id, .string t.nm, .int .i64 t.rep, .int .i64 t.kind, .slice a t.sub.length c] 24)).heap.size = W.heap.size + 1 by simp] at h
  exact blk_alloc h)
 have HX4 : Hid (((((W.alloc (.cells #[.int .i64 t.id, .string t.nm, .int .i64 t.rep, .int .i64 t.kind, .slice a t.sub.length c] 24)).alloc (.cells #[.int .i64 f.id, .int .i64 f.kind, .int .i64 (f.mr : Nat), .int .i64 (f.md : Nat), .slice pa f.path.length pc] 72)).alloc (.cells #[.int .i64 0, .slice none 0 0, .slice none 0 0, .slice none 0 0] 50)).alloc (.cells #[.slice none 0 0, .int .i64 0, .int .i64 0, .slice none 0 0, .slice none 0 0, .slice none 0 0] 95)).drew.heap[W.heap.size + 1]? = some (.cells #[.int .i64 f.id, .int .i64 f.kind, .int .i64 (f.mr : Nat), .int .i64 (f.md : Nat), .slice pa f.path.length pc] 72 (0, 0))) := blk_alloc (w := (((W.alloc (.cells #[.int .i64 t.id, .string t.nm, .int .i64 t.rep, .int .i64 t.kind, .slice a t.sub.length c] 24)).alloc (.cells #[.int .i64 f.id, .int .i64 f.kind, .int .i64 (f.mr : Nat), .int .i64 (f.md : Nat), .slice pa f.path.length pc] 72)).alloc (.cells #[.int .i64 0, .slice none 0 0, .slice none 0 0, .slice none 0 0] 50))) HX3.out
 have HZ4 : Hid (((((W.alloc (.cells #[.int .i64 t.id, .string t.nm, .int .i64 t.rep, .int .i64 t.kind, .slice a t.sub.length c] 24)).alloc (.cells #[.int .i64 f.id, .int .i64 f.kind, .int .i64 (f.mr : Nat), .int .i64 (f.md : Nat), .slice pa f.path.length pc] 72)).alloc (.cells #[.int .i64 0, .slice none 0 0, .slice none 0 0, .slice none 0 0] 50)).alloc (.cells #[.slice none 0 0, .int .i64 0, .int .i64 0, .slice none 0 0, .slice none 0 0, .slice none 0 0] 95)).drew.heap[W.heap.size + 1 + 1 + 1]? = some (.cells #[.slice none 0 0, .int .i64 0, .int .i64 0, .slice none 0 0, .slice none 0 0, .slice none 0 0] 95 (0, 0))) := (by
  have h := heap_alloc_new (((W.alloc (.cells #[.int .i64 t.id, .string t.nm, .int .i64 t.rep, .int .i64 t.kind, .slice a t.sub.length c] 24)).alloc (.cells #[.int .i64 f.id, .int .i64 f.kind, .int .i64 (f.mr : Nat), .int .i64 (f.md : Nat), .slice pa f.path.length pc] 72)).alloc (.cells #[.int .i64 0, .slice none 0 0, .slice none 0 0, .slice none 0 0] 50)) (.cells #[.slice none 0 0, .int .i64 0, .int .i64 0, .slice none 0 0, .slice none 0 0, .slice none 0 0] 95)
  rw [show (((W.alloc (.cells #[.int .i64 t.id, .string t.nm, .int .i64 t.rep, .int .i64 t.kind, .slice a t.sub.length c] 24)).alloc (.cells #[.int .i64 f.id, .int .i64 f.kind, .int .i64 (f.mr : Nat), .int .i64 (f.md : Nat), .slice pa f.path.length pc] 72)).alloc (.cells #[.int .i64 0, .slice none 0 0, .slice none 0 0, .slice none 0 0] 50)).heap.size = W.heap.size + 1 + 1 + 1 by simp] at h
  exact h)
 have HXn : Hid ((((W.alloc (.cells #[.int .i64 t.id, .string t.nm, .int .i64 t.rep, .int .i64 t.kind, .slice a t.sub.length c] 24)).alloc (.cells #[.int .i64 f.id, .int .i64 f.kind, .int .i64 (f.mr : Nat), .int .i64 (f.md : Nat), .slice pa f.path.length pc] 72)).alloc (.cells #[.int .i64 0, .slice none 0 0, .slice none 0 0, .slice none 0 0] 50)).heap[W.heap.size]? = some (.cells #[.int .i64 t.id, .string t.nm, .int .i64 t.rep, .int .i64 t.kind, .slice a t.sub.length c] 24 (0, 0))) := blk_alloc (blk_alloc (heap_alloc_new W _))
 have HCol : Hid ((((W.alloc (.cells #[.int .i64 t.id, .string t.nm, .int .i64 t.rep, .int .i64 t.kind, .slice a t.sub.length c] 24)).alloc (.cells #[.int .i64 f.id, .int .i64 f.kind, .int .i64 (f.mr : Nat), .int .i64 (f.md : Nat), .slice pa f.path.length pc] 72)).alloc (.cells #[.int .i64 0, .slice none 0 0, .slice none 0 0, .slice none 0 0] 50)).heap[W.heap.size + 1 + 1]? = some (.cells #[.int .i64 0, .slice none 0 0, .slice none 0 0, .slice none 0 0] 50 (0, 0))) := (by
  have h := heap_alloc_new ((W.alloc (.cells #[.int .i64 t.id, .string t.nm, .int .i64 t.rep, .int .i64 t.kind, .slice a t.sub.length c] 24)).alloc (.cells #[.int .i64 f.id, .int .i64 f.kind, .int .i64 (f.mr : Nat), .int .i64 (f.md : Nat), .slice pa f.path.length pc] 72)) (.cells #[.int .i64 0, .slice none 0 0, .slice none 0 0, .slice none 0 0] 50)
  rwa [show ((W.alloc (.cells #[.int .i64 t.id, .string t.nm, .int .i64 t.rep, .int .i64 t.kind, .slice a t.sub.length c] 24)).alloc (.cells #[.int .i64 f.id, .int .i64 f.kind, .int .i64 (f.mr : Nat), .int .i64 (f.md : Nat), .slice pa f.path.length pc] 72)).heap.size = W.heap.size + 1 + 1 by simp] at h)
 clear hb3 hb4
 have HLd : Hid (LiesD W (fun b => b < W.heap.size) da ds) := hld
 have HFit : Hid (∀ j (h : j < ds.length), ds[j].Sm ∧ FitS sts ds[j]) := hfit
 have HMany : Hid ((ents f.md sts ds).length ≤ 20000) := hmany
 have HSl : Hid (sts.length ≤ 1000) := (by show _ ≤ _; have := hst.len; omega)
 clear hl hp hst hsm hld hfit hmany
 unfold nodeV
 go_enter Tryz.func26, Tryz.ntmps26
 go_wp2
 have b0 : Below (((W.alloc (.cells #[.int .i64 t.id, .string t.nm, .int .i64 t.rep, .int .i64 t.kind, .slice a t.sub.length c] 24)).alloc (.cells #[.int .i64 f.id, .int .i64 f.kind, .int .i64 (f.mr : Nat), .int .i64 (f.md : Nat), .slice pa f.path.length pc] 72)).alloc (.cells #[.int .i64 0, .slice none 0 0, .slice none 0 0, .slice none 0 0] 50)).heap.size (((W.alloc (.cells #[.int .i64 t.id, .string t.nm, .int .i64 t.rep, .int .i64 t.kind, .slice a t.sub.length c] 24)).alloc (.cells #[.int .i64 f.id, .int .i64 f.kind, .int .i64 (f.mr : Nat), .int .i64 (f.md : Nat), .slice pa f.path.length pc] 72)).alloc (.cells #[.int .i64 0, .slice none 0 0, .slice none 0 0, .slice none 0 0] 50)) (((W.alloc (.cells #[.int .i64 t.id, .string t.nm, .int .i64 t.rep, .int .i64 t.kind, .slice a t.sub.length c] 24)).alloc (.cells #[.int .i64 f.id, .int .i64 f.kind, .int .i64 (f.mr : Nat), .int .i64 (f.md : Nat), .slice pa f.path.length pc] 72)).alloc (.cells #[.int .i64 0, .slice none 0 0, .slice none 0 0, .slice none 0 0] 50)) := Below.refl _ _
 have HN : Hid (∀ X, Below (((W.alloc (.cells #[.int .i64 t.id, .string t.nm, .int .i64 t.rep, .int .i64 t.kind, .slice a t.sub.length c] 24)).alloc (.cells #[.int .i64 f.id, .int .i64 f.kind, .int .i64 (f.mr : Nat), .int .i64 (f.md : Nat), .slice pa f.path.length pc] 72)).alloc (.cells #[.int .i64 0, .slice none 0 0, .slice none 0 0, .slice none 0 0] 50)).heap.size (((W.alloc (.cells #[.int .i64 t.id, .string t.nm, .int .i64 t.rep, .int .i64 t.kind, .slice a t.sub.length c] 24)).alloc (.cells #[.int .i64 f.id, .int .i64 f.kind, .int .i64 (f.mr : Nat), .int .i64 (f.md : Nat), .slice pa f.path.length pc] 72)).alloc (.cells #[.int .i64 0, .slice none 0 0, .slice none 0 0, .slice none 0 0] 50)) X → X.cell? ⟨W.heap.size, 0, none⟩ = some (.int .i64 t.id) ∧ X.cell? ⟨W.heap.size, 1, none⟩ = some (.string t.nm) ∧ X.cell? ⟨W.heap.size, 2, none⟩ = some (.int .i64 t.rep) ∧ X.cell? ⟨W.heap.size, 3, none⟩ = some (.int .i64 t.kind) ∧ X.cell? ⟨W.heap.size, 4, none⟩ = some (.slice a t.sub.length c) ∧ X.cell? ⟨W.heap.size + 1, 0, none⟩ = some (.int .i64 f.id) ∧ X.cell? ⟨W.heap.size + 1, 1, none⟩ = some (.int .i64 f.kind) ∧ X.cell? ⟨W.heap.size + 1, 2, none⟩ = some (.int .i64 (f.mr : Nat)) ∧ X.cell? ⟨W.heap.size + 1, 3, none⟩ = some (.int .i64 (f.md : Nat)) ∧ X.cell? ⟨W.heap.size + 1, 4, none⟩ = some (.slice pa f.path.length pc) ∧ Below (((W.alloc (.cells #[.int .i64 t.id, .string t.nm, .int .i64 t.rep, .int .i64 t.kind, .slice a t.sub.length c] 24)).alloc (.cells #[.int .i64 f.id, .int .i64 f.kind, .int .i64 (f.mr : Nat), .int .i64 (f.md : Nat), .slice pa f.path.length pc] 72)).alloc (.cells #[.int .i64 0, .slice none 0 0, .slice none 0 0, .slice none 0 0] 50)).heap.size (((W.alloc (.cells #[.int .i64 t.id, .string t.nm, .int .i64 t.rep, .int .i64 t.kind, .slice a t.sub.length c] 24)).alloc (.cells #[.int .i64 f.id, .int .i64 f.kind, .int .i64 (f.mr : Nat), .int .i64 (f.md : Nat), .slice pa f.path.length pc] 72)).alloc (.cells #[.int .i64 0, .slice none 0 0, .slice none 0 0, .slice none 0 0] 50)) X) := fun X hX => by
  obtain ⟨⟨n0, n1, n2, n3, n4⟩, _⟩ := row_five (blk_keep hX HXn.out)
  obtain ⟨⟨l0, l1, l2, l3, l4⟩, _⟩ := row_five (blk_keep hX HX3.out)
  exact ⟨n0, n1, n2, n3, n4, l0, l1, l2, l3, l4, hX⟩
 go_region_held3 (fun X => X.cell? ⟨W.heap.size, 0, none⟩ = some (.int .i64 t.id) ∧ X.cell? ⟨W.heap.size, 1, none⟩ = some (.string t.nm) ∧ X.cell? ⟨W.heap.size, 2, none⟩ = some (.int .i64 t.rep) ∧ X.cell? ⟨W.heap.size, 3, none⟩ = some (.int .i64 t.kind) ∧ X.cell? ⟨W.heap.size, 4, none⟩ = some (.slice a t.sub.length c) ∧ X.cell? ⟨W.heap.size + 1, 0, none⟩ = some (.int .i64 f.id) ∧ X.cell? ⟨W.heap.size + 1, 1, none⟩ = some (.int .i64 f.kind) ∧ X.cell? ⟨W.heap.size + 1, 2, none⟩ = some (.int .i64 (f.mr : Nat)) ∧ X.cell? ⟨W.heap.size + 1, 3, none⟩ = some (.int .i64 (f.md : Nat)) ∧ X.cell? ⟨W.heap.size + 1, 4, none⟩ = some (.slice pa f.path.length pc) ∧ Below (((W.alloc (.cells #[.int .i64 t.id, .string t.nm, .int .i64 t.rep, .int .i64 t.kind, .slice a t.sub.length c] 24)).alloc (.cells #[.int .i64 f.id, .int .i64 f.kind, .int .i64 (f.mr : Nat), .int .i64 (f.md : Nat), .slice pa f.path.length pc] 72)).alloc (.cells #[.int .i64 0, .slice none 0 0, .slice none 0 0, .slice none 0 0] 50)).heap.size (((W.alloc (.cells #[.int .i64 t.id, .string t.nm, .int .i64 t.rep, .int .i64 t.kind, .slice a t.sub.length c] 24)).alloc (.cells #[.int .i64 f.id, .int .i64 f.kind, .int .i64 (f.mr : Nat), .int .i64 (f.md : Nat), .slice pa f.path.length pc] 72)).alloc (.cells #[.int .i64 0, .slice none 0 0, .slice none 0 0, .slice none 0 0] 50)) X) (first | (with_reducible refine HN.out _ ?_; repeat' (first | with_reducible assumption | with_reducible exact b0.drew | with_reducible exact b0 | with_reducible exact (b0.alloc (Nat.le_refl _) _).drew | with_reducible refine Below.setCell ?_ ?_ _ | with_reducible refine Below.alloc ?_ ?_ _ | with_reducible exact Below.size (by assumption) | (simp; done) | (simp; omega) | omega))) (first | (go_at_call 42; refine Calls.mono HA.out ?_; rintro e w1 ⟨⟨sv, rfl, hrow⟩, hb1⟩; obtain ⟨sa, sc, rfl⟩ := own_sl hrow; have hbC : Below (((W.alloc (.cells #[.int .i64 t.id, .string t.nm, .int .i64 t.rep, .int .i64 t.kind, .slice a t.sub.length c] 24)).alloc (.cells #[.int .i64 f.id, .int .i64 f.kind, .int .i64 (f.mr : Nat), .int .i64 (f.md : Nat), .slice pa f.path.length pc] 72)).alloc (.cells #[.int .i64 0, .slice none 0 0, .slice none 0 0, .slice none 0 0] 50)).heap.size (((W.alloc (.cells #[.int .i64 t.id, .string t.nm, .int .i64 t.rep, .int .i64 t.kind, .slice a t.sub.length c] 24)).alloc (.cells #[.int .i64 f.id, .int .i64 f.kind, .int .i64 (f.mr : Nat), .int .i64 (f.md : Nat), .slice pa f.path.length pc] 72)).alloc (.cells #[.int .i64 0, .slice none 0 0, .slice none 0 0, .slice none 0 0] 50)) w1 := (Below.refl _ _).drew.trans hb1; have HRow : Hid (w1.ownsRow (((W.alloc (.cells #[.int .i64 t.id, .string t.nm, .int .i64 t.rep, .int .i64 t.kind, .slice a t.sub.length c] 24)).alloc (.cells #[.int .i64 f.id, .int .i64 f.kind, .int .i64 (f.mr : Nat), .int .i64 (f.md : Nat), .slice pa f.path.length pc] 72)).alloc (.cells #[.int .i64 0, .slice none 0 0, .slice none 0 0, .slice none 0 0] 50)).heap.size 131 4 (.slice sa sts.length sc) sts.length (sts.flatMap stC)) := hrow; clear hrow hb1) | (go_at_call 42; refine Calls.mono HZ.out ?_; rintro e w1 ⟨⟨sv, rfl, hrow⟩, hb1⟩; obtain ⟨sa, sc, rfl⟩ := own_sl hrow; obtain ⟨z0, z1, z2, z3, z4, z5⟩ := row_six (blk_keep hb1 HZ4.out); obtain ⟨y0, y1, y2, y3, y4, y5⟩ := row_sixA (blk_keep hb1 HZ4.out); have hbC : Below (((W.alloc (.cells #[.int .i64 t.id, .string t.nm, .int .i64 t.rep, .int .i64 t.kind, .slice a t.sub.length c] 24)).alloc (.cells #[.int .i64 f.id, .int .i64 f.kind, .int .i64 (f.mr : Nat), .int .i64 (f.md : Nat), .slice pa f.path.length pc] 72)).alloc (.cells #[.int .i64 0, .slice none 0 0, .slice none 0 0, .slice none 0 0] 50)).heap.size (((W.alloc (.cells #[.int .i64 t.id, .string t.nm, .int .i64 t.rep, .int .i64 t.kind, .slice a t.sub.length c] 24)).alloc (.cells #[.int .i64 f.id, .int .i64 f.kind, .int .i64 (f.mr : Nat), .int .i64 (f.md : Nat), .slice pa f.path.length pc] 72)).alloc (.cells #[.int .i64 0, .slice none 0 0, .slice none 0 0, .slice none 0 0] 50)) w1 := ((b0.drew.alloc (by simp) _)).trans (hb1.mono (by simp)); have HRow : Hid (w1.ownsRow ((((W.alloc (.cells #[.int .i64 t.id, .string t.nm, .int .i64 t.rep, .int .i64 t.kind, .slice a t.sub.length c] 24)).alloc (.cells #[.int .i64 f.id, .int .i64 f.kind, .int .i64 (f.mr : Nat), .int .i64 (f.md : Nat), .slice pa f.path.length pc] 72)).alloc (.cells #[.int .i64 0, .slice none 0 0, .slice none 0 0, .slice none 0 0] 50)).heap.size + 1) 131 4 (.slice sa sts.length sc) sts.length (sts.flatMap stC)) := (by show World.ownsRow _ _ _ _ _ _ _; simpa using hrow); have HG : Hid _ := blk_keep hb1 HZ4.out; clear hrow hb1))
 · have HRes : Hid ((w1.alloc (.cells #[.slice sa sts.length sc, .int .i64 (f.md : Nat), .int .i64 f.id, .slice none 0 0, .slice none 0 0, .slice none 0 0] 95)).heap[W.heap.size + 1 + 1]? = some (.cells #[.int .i64 0, .slice none 0 0, .slice none 0 0, .slice none 0 0] 50 (0, 0))) := blk_alloc (blk_keep hbC HCol.out)
   have HBl : Hid (Below W.heap.size W (w1.alloc (.cells #[.slice sa sts.length sc, .int .i64 (f.md : Nat), .int .i64 f.id, .slice none 0 0, .slice none 0 0, .slice none 0 0] 95))) := (HB3.out.trans (hbC.mono (by simp; omega))).alloc (by have := hbC.size; simp at this; omega) _
   have HCo : Hid (CoS w1.heap.size (W.heap.size + 3) (.slice sa sts.length sc) sts f.md f.id [] [] [] (w1.alloc (.cells #[.slice sa sts.length sc, .int .i64 (f.md : Nat), .int .i64 f.id, .slice none 0 0, .slice none 0 0, .slice none 0 0] 95))) := CoS.begin (heap_alloc_new w1 _) ((own_low HRow.out (by simp)).alloc _)
   have hg3 : W.heap.size + 3 ≤ w1.heap.size := by have := hbC.size; simp at this; omega
   have hNs : W.heap.size + 3 ≤ (w1.alloc (.cells #[.slice sa sts.length sc, .int .i64 (f.md : Nat), .int .i64 f.id, .slice none 0 0, .slice none 0 0, .slice none 0 0] 95)).heap.size := by simp; omega
   clear hbC HRow HA HZ HB3 HB4 HX3 HX4 HXn HZ4 b0 HN HCol
   generalize (w1.alloc (.cells #[.slice sa sts.length sc, .int .i64 (f.md : Nat), .int .i64 f.id, .slice none 0 0, .slice none 0 0, .slice none 0 0] 95)) = W' at *
   generalize w1.heap.size = g at *
   go_wp2
   go_loopw [23] (fun x wr => ∃ i : Nat, i ≤ ds.length ∧ x = .int .i64 i ∧ Hid (CoS g (W.heap.size + 3) (.slice sa sts.length sc) sts f.md f.id (eR (ents f.md sts (ds.take i))) (eD (ents f.md sts (ds.take i))) (eV (ents f.md sts (ds.take i))) wr) ∧ Hid (DFr g (W.heap.size + 3) W' wr)) (fun x _ => ds.length - (intOf x).toNat)
   case atStart => exact ⟨0, Nat.zero_le _, rfl, (by show CoS _ _ _ _ _ _ _ _ _ _; simpa [ents, eR, eD, eV] using HCo.out), DFr.refl _ _ _⟩
   case round =>
    obtain ⟨i, hi, rfl, HC, HD⟩ := hrel
    have hds' := HD.out.size
    have hbl : Below W.heap.size W wr := HBl.out.trans (HD.out.below (by omega) (by omega) (by omega))
    by_cases hlt : i < ds.length
    · obtain ⟨b', o', al1, cl1, af1, cf1, ea, ⟨e0, e1, e2, e3, e4, e5⟩, hd1, hd2⟩ := (HLd.out.keep hbl).at_ i hlt
      subst ea
      have hb2 : Below wr.heap.size wr (wr.alloc (.cells #[.bool ds[i].no, .int .i64 ds[i].v.k, .int .i64 ds[i].v.n, .string ds[i].v.s, .slice al1 ds[i].l.length cl1, .slice af1 ds[i].f.length cf1] 56)) := (Below.refl _ _).alloc (Nat.le_refl _) _
      have hst := ents_step f.md sts ds i hlt
      have hle := ents_le f.md sts ds (i + 1)
      rw [hst, List.length_append] at hle
      have hmn := HMany.out
      have HCk : Hid _ := down_all g (W.heap.size + 3) W.heap.size (by omega) (by omega) (.slice sa sts.length sc) sts f.md f.id HSl.out sts 0 rfl (Nat.zero_le _) ds[i] (HFit.out i hlt).1 (HFit.out i hlt).2 _ _ _ 0 al1 cl1 af1 cf1 (wr.alloc (.cells #[.bool ds[i].no, .int .i64 ds[i].v.k, .int .i64 ds[i].v.n, .string ds[i].v.s, .slice al1 ds[i].l.length cl1, .slice af1 ds[i].f.length cf1] 56)) (HC.out.stay hb2) (by simp; omega) (by rw [eR_len]; omega) (by rw [eR_len, eD_len]) (by rw [eR_len]; exact eV_len _) (hd1.keep hb2) (hd2.keep hb2)
      have HB2 : Hid _ := hb2
      have HSt : Hid _ := hst
      clear hb2 hst hle hmn hd1 hd2 hbl
      go_wp2_with fail
      refine Calls.mono HCk.out ?_
      rintro e w3 ⟨rfl, hC3, hD3⟩
      have HC3 : Hid (CoS g (W.heap.size + 3) (.slice sa sts.length sc) sts f.md f.id (eR (ents f.md sts (ds.take (i + 1)))) (eD (ents f.md sts (ds.take (i + 1)))) (eV (ents f.md sts (ds.take (i + 1)))) w3) := (by rw [HSt.out, eR_app, eD_app, eV_app]; exact hC3)
      have HD3 : Hid (DFr g (W.heap.size + 3) W' w3) := (HD.out.trans (DFr.alloc g _ wr _)).trans hD3
      clear hC3 hD3 e0 e1 e2 e3 e4 e5
      go_wp2
      go_roundw
      case rel => exact ⟨i + 1, by omega, by go_num, HC3, HD3⟩
      case measure => simp [intOf]; omega
    · obtain rfl : i = ds.length := by omega
      obtain ⟨rv, dv, vv, hI⟩ := HC.out
      rw [List.take_length] at hI
      have HI : Hid (CoI g (W.heap.size + 3) (.slice sa sts.length sc) sts f.md f.id rv (eR (ents f.md sts ds)) dv (eD (ents f.md sts ds)) vv (eV (ents f.md sts ds)) wr) := hI
      obtain ⟨ra, rc, rfl⟩ := own_sl hI.rrow
      obtain ⟨qa, qc, rfl⟩ := own_sl hI.drow
      obtain ⟨va, vc, rfl⟩ := own_sl hI.vrow
      obtain ⟨c0, c1, c2, c3, c4, c5⟩ := row_six hI.cell
      have HR2 : Hid (wr.heap[W.heap.size + 1 + 1]? = some (.cells #[.int .i64 0, .slice none 0 0, .slice none 0 0, .slice none 0 0] 50 (0, 0))) := HD.out.box HRes.out (by omega) (by decide)
      obtain ⟨p0, p1, p2, p3⟩ := row_four HR2.out
      obtain ⟨f0, f1, f2, f3⟩ := row_fourF HR2.out
      have HB3 : Hid (Below W.heap.size W wr) := hbl
      clear hI hbl
      go_wp2
      have ON := set_four HR2.out (.int .i64 f.id) (.slice ra (eR (ents f.md sts ds)).length rc) (.slice qa (eD (ents f.md sts ds)).length qc) (.slice va (eV (ents f.md sts ds)).length vc)
      obtain ⟨k0, k1, k2, k3⟩ := row_four ON.new
      refine bodyPost_ret (results_ct rfl _ _ ⟨W.heap.size + 1 + 1, 0, none⟩ (.agg #[.int .i64 f.id, .slice ra (eR (ents f.md sts ds)).length rc, .slice qa (eD (ents f.md sts ds)).length qc, .slice va (eV (ents f.md sts ds)).length vc]) rfl (loadCol k0 k1 k2 k3)) rfl ?_
      have hrow : ∀ {e s n : Nat} {v : Value} {xs : List Value}, wr.ownsRow (W.heap.size + 3) e s v n xs → _ := fun {e s n v xs} (h : wr.ownsRow (W.heap.size + 3) e s v n xs) => own_same (own_low h (show W.heap.size ≤ W.heap.size + 3 by omega)) fun k hk => ON.old k (by have := (own_block h hk).1; omega)
      exact ⟨⟨_, _, _, rfl, hrow HI.out.rrow, hrow HI.out.drow, hrow HI.out.vrow⟩, ⟨ON.os.trans HB3.out.os, ON.tape.trans HB3.out.tape, ON.output.trans HB3.out.output, by rw [ON.size]; exact HB3.out.size, fun k hk => by rw [ON.old k (by omega), HB3.out.block k hk]⟩⟩
 · have ON := set_six HG.out (.slice sa sts.length sc) (.int .i64 (f.md : Nat)) (.int .i64 f.id) (.slice none 0 0) (.slice none 0 0) (.slice none 0 0)
   have HRes : Hid (((((((w1.setCell ⟨W.heap.size + 1 + 1 + 1, 0, none⟩ (.slice sa sts.length sc)).setCell ⟨W.heap.size + 1 + 1 + 1, 1, none⟩ (.int .i64 (f.md : Nat))).setCell ⟨W.heap.size + 1 + 1 + 1, 2, none⟩ (.int .i64 f.id)).setCell ⟨W.heap.size + 1 + 1 + 1, 3, none⟩ (.slice none 0 0)).setCell ⟨W.heap.size + 1 + 1 + 1, 4, none⟩ (.slice none 0 0)).setCell ⟨W.heap.size + 1 + 1 + 1, 5, none⟩ (.slice none 0 0)).heap[W.heap.size + 1 + 1]? = some (.cells #[.int .i64 0, .slice none 0 0, .slice none 0 0, .slice none 0 0] 50 (0, 0))) := (ON.old _ (by omega)).trans (blk_keep hbC HCol.out)
   have hbA : Below W.heap.size W w1 := HB3.out.trans (hbC.mono (by simp; omega))
   have HBl : Hid (Below W.heap.size W ((((((w1.setCell ⟨W.heap.size + 1 + 1 + 1, 0, none⟩ (.slice sa sts.length sc)).setCell ⟨W.heap.size + 1 + 1 + 1, 1, none⟩ (.int .i64 (f.md : Nat))).setCell ⟨W.heap.size + 1 + 1 + 1, 2, none⟩ (.int .i64 f.id)).setCell ⟨W.heap.size + 1 + 1 + 1, 3, none⟩ (.slice none 0 0)).setCell ⟨W.heap.size + 1 + 1 + 1, 4, none⟩ (.slice none 0 0)).setCell ⟨W.heap.size + 1 + 1 + 1, 5, none⟩ (.slice none 0 0))) := ⟨ON.os.trans hbA.os, ON.tape.trans hbA.tape, ON.output.trans hbA.output, by rw [ON.size]; exact hbA.size, fun k hk => by rw [ON.old k (by omega), hbA.block k hk]⟩
   have HCo : Hid (CoS (W.heap.size + 1 + 1 + 1) (W.heap.size + 3) (.slice sa sts.length sc) sts f.md f.id [] [] [] ((((((w1.setCell ⟨W.heap.size + 1 + 1 + 1, 0, none⟩ (.slice sa sts.length sc)).setCell ⟨W.heap.size + 1 + 1 + 1, 1, none⟩ (.int .i64 (f.md : Nat))).setCell ⟨W.heap.size + 1 + 1 + 1, 2, none⟩ (.int .i64 f.id)).setCell ⟨W.heap.size + 1 + 1 + 1, 3, none⟩ (.slice none 0 0)).setCell ⟨W.heap.size + 1 + 1 + 1, 4, none⟩ (.slice none 0 0)).setCell ⟨W.heap.size + 1 + 1 + 1, 5, none⟩ (.slice none 0 0))) := CoS.begin ON.new (own_same (own_low HRow.out (by simp)) fun k hk => ON.old k (by have := (own_block HRow.out hk).1; simp at this; omega))
   have hg3 : W.heap.size + 3 ≤ W.heap.size + 1 + 1 + 1 := by omega
   have hNs : W.heap.size + 3 ≤ ((((((w1.setCell ⟨W.heap.size + 1 + 1 + 1, 0, none⟩ (.slice sa sts.length sc)).setCell ⟨W.heap.size + 1 + 1 + 1, 1, none⟩ (.int .i64 (f.md : Nat))).setCell ⟨W.heap.size + 1 + 1 + 1, 2, none⟩ (.int .i64 f.id)).setCell ⟨W.heap.size + 1 + 1 + 1, 3, none⟩ (.slice none 0 0)).setCell ⟨W.heap.size + 1 + 1 + 1, 4, none⟩ (.slice none 0 0)).setCell ⟨W.heap.size + 1 + 1 + 1, 5, none⟩ (.slice none 0 0)).heap.size := by have := hbC.size; rw [ON.size]; simp at this; omega
   clear ON hbA hbC HRow HA HZ HB3 HB4 HX3 HX4 HXn HZ4 b0 HN HCol HG z0 z1 z2 z3 z4 z5 y0 y1 y2 y3 y4 y5
   generalize ((((((w1.setCell ⟨W.heap.size + 1 + 1 + 1, 0, none⟩ (.slice sa sts.length sc)).setCell ⟨W.heap.size + 1 + 1 + 1, 1, none⟩ (.int .i64 (f.md : Nat))).setCell ⟨W.heap.size + 1 + 1 + 1, 2, none⟩ (.int .i64 f.id)).setCell ⟨W.heap.size + 1 + 1 + 1, 3, none⟩ (.slice none 0 0)).setCell ⟨W.heap.size + 1 + 1 + 1, 4, none⟩ (.slice none 0 0)).setCell ⟨W.heap.size + 1 + 1 + 1, 5, none⟩ (.slice none 0 0)) = W' at *
   go_wp2
   go_loopw [23] (fun x wr => ∃ i : Nat, i ≤ ds.length ∧ x = .int .i64 i ∧ Hid (CoS (W.heap.size + 1 + 1 + 1) (W.heap.size + 3) (.slice sa sts.length sc) sts f.md f.id (eR (ents f.md sts (ds.take i))) (eD (ents f.md sts (ds.take i))) (eV (ents f.md sts (ds.take i))) wr) ∧ Hid (DFr (W.heap.size + 1 + 1 + 1) (W.heap.size + 3) W' wr)) (fun x _ => ds.length - (intOf x).toNat)
   case atStart => exact ⟨0, Nat.zero_le _, rfl, (by show CoS _ _ _ _ _ _ _ _ _ _; simpa [ents, eR, eD, eV] using HCo.out), DFr.refl _ _ _⟩
   case round =>
    obtain ⟨i, hi, rfl, HC, HD⟩ := hrel
    have hds' := HD.out.size
    have hbl : Below W.heap.size W wr := HBl.out.trans (HD.out.below (by omega) (by omega) (by omega))
    by_cases hlt : i < ds.length
    · obtain ⟨b', o', al1, cl1, af1, cf1, ea, ⟨e0, e1, e2, e3, e4, e5⟩, hd1, hd2⟩ := (HLd.out.keep hbl).at_ i hlt
      subst ea
      have hb2 : Below wr.heap.size wr (wr.alloc (.cells #[.bool ds[i].no, .int .i64 ds[i].v.k, .int .i64 ds[i].v.n, .string ds[i].v.s, .slice al1 ds[i].l.length cl1, .slice af1 ds[i].f.length cf1] 56)) := (Below.refl _ _).alloc (Nat.le_refl _) _
      have hst := ents_step f.md sts ds i hlt
      have hle := ents_le f.md sts ds (i + 1)
      rw [hst, List.length_append] at hle
      have hmn := HMany.out
      have HCk : Hid _ := down_all (W.heap.size + 1 + 1 + 1) (W.heap.size + 3) W.heap.size (by omega) (by omega) (.slice sa sts.length sc) sts f.md f.id HSl.out sts 0 rfl (Nat.zero_le _) ds[i] (HFit.out i hlt).1 (HFit.out i hlt).2 _ _ _ 0 al1 cl1 af1 cf1 (wr.alloc (.cells #[.bool ds[i].no, .int .i64 ds[i].v.k, .int .i64 ds[i].v.n, .string ds[i].v.s, .slice al1 ds[i].l.length cl1, .slice af1 ds[i].f.length cf1] 56)) (HC.out.stay hb2) (by simp; omega) (by rw [eR_len]; omega) (by rw [eR_len, eD_len]) (by rw [eR_len]; exact eV_len _) (hd1.keep hb2) (hd2.keep hb2)
      have HB2 : Hid _ := hb2
      have HSt : Hid _ := hst
      clear hb2 hst hle hmn hd1 hd2 hbl
      go_wp2_with fail
      refine Calls.mono HCk.out ?_
      rintro e w3 ⟨rfl, hC3, hD3⟩
      have HC3 : Hid (CoS (W.heap.size + 1 + 1 + 1) (W.heap.size + 3) (.slice sa sts.length sc) sts f.md f.id (eR (ents f.md sts (ds.take (i + 1)))) (eD (ents f.md sts (ds.take (i + 1)))) (eV (ents f.md sts (ds.take (i + 1)))) w3) := (by rw [HSt.out, eR_app, eD_app, eV_app]; exact hC3)
      have HD3 : Hid (DFr (W.heap.size + 1 + 1 + 1) (W.heap.size + 3) W' w3) := (HD.out.trans (DFr.alloc (W.heap.size + 1 + 1 + 1) _ wr _)).trans hD3
      clear hC3 hD3 e0 e1 e2 e3 e4 e5
      go_wp2
      go_roundw
      case rel => exact ⟨i + 1, by omega, by go_num, HC3, HD3⟩
      case measure => simp [intOf]; omega
    · obtain rfl : i = ds.length := by omega
      obtain ⟨rv, dv, vv, hI⟩ := HC.out
      rw [List.take_length] at hI
      have HI : Hid (CoI (W.heap.size + 1 + 1 + 1) (W.heap.size + 3) (.slice sa sts.length sc) sts f.md f.id rv (eR (ents f.md sts ds)) dv (eD (ents f.md sts ds)) vv (eV (ents f.md sts ds)) wr) := hI
      obtain ⟨ra, rc, rfl⟩ := own_sl hI.rrow
      obtain ⟨qa, qc, rfl⟩ := own_sl hI.drow
      obtain ⟨va, vc, rfl⟩ := own_sl hI.vrow
      obtain ⟨c0, c1, c2, c3, c4, c5⟩ := row_six hI.cell
      have HR2 : Hid (wr.heap[W.heap.size + 1 + 1]? = some (.cells #[.int .i64 0, .slice none 0 0, .slice none 0 0, .slice none 0 0] 50 (0, 0))) := HD.out.box HRes.out (by omega) (by decide)
      obtain ⟨p0, p1, p2, p3⟩ := row_four HR2.out
      obtain ⟨f0, f1, f2, f3⟩ := row_fourF HR2.out
      have HB3 : Hid (Below W.heap.size W wr) := hbl
      clear hI hbl
      go_wp2
      have ON := set_four HR2.out (.int .i64 f.id) (.slice ra (eR (ents f.md sts ds)).length rc) (.slice qa (eD (ents f.md sts ds)).length qc) (.slice va (eV (ents f.md sts ds)).length vc)
      obtain ⟨k0, k1, k2, k3⟩ := row_four ON.new
      refine bodyPost_ret (results_ct rfl _ _ ⟨W.heap.size + 1 + 1, 0, none⟩ (.agg #[.int .i64 f.id, .slice ra (eR (ents f.md sts ds)).length rc, .slice qa (eD (ents f.md sts ds)).length qc, .slice va (eV (ents f.md sts ds)).length vc]) rfl (loadCol k0 k1 k2 k3)) rfl ?_
      have hrow : ∀ {e s n : Nat} {v : Value} {xs : List Value}, wr.ownsRow (W.heap.size + 3) e s v n xs → _ := fun {e s n v xs} (h : wr.ownsRow (W.heap.size + 3) e s v n xs) => own_same (own_low h (show W.heap.size ≤ W.heap.size + 3 by omega)) fun k hk => ON.old k (by have := (own_block h hk).1; omega)
      exact ⟨⟨_, _, _, rfl, hrow HI.out.rrow, hrow HI.out.drow, hrow HI.out.vrow⟩, ⟨ON.os.trans HB3.out.os, ON.tape.trans HB3.out.tape, ON.output.trans HB3.out.output, by rw [ON.size]; exact HB3.out.size, fun k hk => by rw [ON.old k (by omega), HB3.out.block k hk]⟩⟩
set_option maxRecDepth 100000 in
set_option maxHeartbeats 8000000 in
theorem sfits_t (lid kind mr md : Int) (pa : Option Addr) (pn pc : Nat) (cid : Int) (ra : Option Addr) (rs : List Int) (rc : Nat) (da : Option Addr) (ds : List Int) (dc : Nat) (va : Option Addr) (nv vc : Nat) (hr : rs.length ≤ 1048576) (hd : ds.length ≤ 1048576) (W : World) (hlr : Lies W ra (i64s rs)) (hld : Lies W da (i64s ds)) (HT : Hid ((rs.any fun x => !(btw 0 x mr)) = true)) :
    Calls Tryz.prog 109 #[leafV lid kind mr md pa pn pc, colV cid ra rs.length rc da ds.length dc va nv vc] W fun e w' => e = .returned (.bool (fitB lid mr md cid rs ds nv)) ∧ Below W.heap.size W w' := by
 have hb2 : Below W.heap.size W ((W.alloc (.cells #[.int .i64 lid, .int .i64 kind, .int .i64 mr, .int .i64 md, .slice pa pn pc] 72)).alloc (.cells #[.int .i64 cid, .slice ra rs.length rc, .slice da ds.length dc, .slice va nv vc] 50)) := ((Below.refl _ _).alloc (Nat.le_refl _) _).alloc (by simp) _
 have HB : Hid (Below W.heap.size W ((W.alloc (.cells #[.int .i64 lid, .int .i64 kind, .int .i64 mr, .int .i64 md, .slice pa pn pc] 72)).alloc (.cells #[.int .i64 cid, .slice ra rs.length rc, .slice da ds.length dc, .slice va nv vc] 50))) := hb2
 have HX : Hid (((W.alloc (.cells #[.int .i64 lid, .int .i64 kind, .int .i64 mr, .int .i64 md, .slice pa pn pc] 72)).alloc (.cells #[.int .i64 cid, .slice ra rs.length rc, .slice da ds.length dc, .slice va nv vc] 50)).heap[W.heap.size]? = some (.cells #[.int .i64 lid, .int .i64 kind, .int .i64 mr, .int .i64 md, .slice pa pn pc] 72 (0, 0))) := blk_alloc (heap_alloc_new W _)
 have HY : Hid (((W.alloc (.cells #[.int .i64 lid, .int .i64 kind, .int .i64 mr, .int .i64 md, .slice pa pn pc] 72)).alloc (.cells #[.int .i64 cid, .slice ra rs.length rc, .slice da ds.length dc, .slice va nv vc] 50)).heap[W.heap.size + 1]? = some (.cells #[.int .i64 cid, .slice ra rs.length rc, .slice da ds.length dc, .slice va nv vc] 50 (0, 0))) := (by
  have h := heap_alloc_new (W.alloc (.cells #[.int .i64 lid, .int .i64 kind, .int .i64 mr, .int .i64 md, .slice pa pn pc] 72)) (.cells #[.int .i64 cid, .slice ra rs.length rc, .slice da ds.length dc, .slice va nv vc] 50)
  rwa [show (W.alloc (.cells #[.int .i64 lid, .int .i64 kind, .int .i64 mr, .int .i64 md, .slice pa pn pc] 72)).heap.size = W.heap.size + 1 by simp] at h)
 have HLr : Hid (Lies ((W.alloc (.cells #[.int .i64 lid, .int .i64 kind, .int .i64 mr, .int .i64 md, .slice pa pn pc] 72)).alloc (.cells #[.int .i64 cid, .slice ra rs.length rc, .slice da ds.length dc, .slice va nv vc] 50)) ra (i64s rs)) := hlr.keep hb2
 have HLd : Hid (Lies ((W.alloc (.cells #[.int .i64 lid, .int .i64 kind, .int .i64 mr, .int .i64 md, .slice pa pn pc] 72)).alloc (.cells #[.int .i64 cid, .slice ra rs.length rc, .slice da ds.length dc, .slice va nv vc] 50)) da (i64s ds)) := hld.keep hb2
 clear hlr hld hb2
 unfold leafV colV
 by_cases h1 : cid = lid
 · by_cases h2 : rs.length = ds.length
   · subst h1
     have HE0 : Hid (fitB cid mr md cid rs ds nv = if headB rs = true then false else if (rs.any fun x => !(btw 0 x mr)) = true ∨ (ds.any fun x => !(btw 0 x md)) = true then false else decide (nv = cntE md ds)) := (by show _ = _; unfold fitB; rw [if_neg (by simp [h2])])
     have q2 : ((rs.length : Int) == (ds.length : Int)) = true := by simp [h2]
     have H2 : Hid (rs.length = ds.length) := h2
     clear h2
     obtain ⟨b1, H1⟩ : ∃ b1, Hid ((rs.any fun x => !(btw 0 x mr)) = b1) := ⟨_, rfl⟩
     obtain ⟨b2, Hb2⟩ : ∃ b2, Hid ((ds.any fun x => !(btw 0 x md)) = b2) := ⟨_, rfl⟩
     have b0 : Below ((W.alloc (.cells #[.int .i64 cid, .int .i64 kind, .int .i64 mr, .int .i64 md, .slice pa pn pc] 72)).alloc (.cells #[.int .i64 cid, .slice ra rs.length rc, .slice da ds.length dc, .slice va nv vc] 50)).heap.size ((W.alloc (.cells #[.int .i64 cid, .int .i64 kind, .int .i64 mr, .int .i64 md, .slice pa pn pc] 72)).alloc (.cells #[.int .i64 cid, .slice ra rs.length rc, .slice da ds.length dc, .slice va nv vc] 50)) ((W.alloc (.cells #[.int .i64 cid, .int .i64 kind, .int .i64 mr, .int .i64 md, .slice pa pn pc] 72)).alloc (.cells #[.int .i64 cid, .slice ra rs.length rc, .slice da ds.length dc, .slice va nv vc] 50)) := Below.refl _ _
     have HN : Hid (∀ X, Below ((W.alloc (.cells #[.int .i64 cid, .int .i64 kind, .int .i64 mr, .int .i64 md, .slice pa pn pc] 72)).alloc (.cells #[.int .i64 cid, .slice ra rs.length rc, .slice da ds.length dc, .slice va nv vc] 50)).heap.size ((W.alloc (.cells #[.int .i64 cid, .int .i64 kind, .int .i64 mr, .int .i64 md, .slice pa pn pc] 72)).alloc (.cells #[.int .i64 cid, .slice ra rs.length rc, .slice da ds.length dc, .slice va nv vc] 50)) X → X.cell? ⟨W.heap.size, 0, none⟩ = some (.int .i64 cid) ∧ X.cell? ⟨W.heap.size, 1, none⟩ = some (.int .i64 kind) ∧ X.cell? ⟨W.heap.size, 2, none⟩ = some (.int .i64 mr) ∧ X.cell? ⟨W.heap.size, 3, none⟩ = some (.int .i64 md) ∧ X.cell? ⟨W.heap.size, 4, none⟩ = some (.slice pa pn pc) ∧ X.cell? ⟨W.heap.size + 1, 0, none⟩ = some (.int .i64 cid) ∧ X.cell? ⟨W.heap.size + 1, 1, none⟩ = some (.slice ra rs.length rc) ∧ X.cell? ⟨W.heap.size + 1, 2, none⟩ = some (.slice da ds.length dc) ∧ X.cell? ⟨W.heap.size + 1, 3, none⟩ = some (.slice va nv vc) ∧ Below ((W.alloc (.cells #[.int .i64 cid, .int .i64 kind, .int .i64 mr, .int .i64 md, .slice pa pn pc] 72)).alloc (.cells #[.int .i64 cid, .slice ra rs.length rc, .slice da ds.length dc, .slice va nv vc] 50)).heap.size ((W.alloc (.cells #[.int .i64 cid, .int .i64 kind, .int .i64 mr, .int .i64 md, .slice pa pn pc] 72)).alloc (.cells #[.int .i64 cid, .slice ra rs.length rc, .slice da ds.length dc, .slice va nv vc] 50)) X) := fun X hX => by
      obtain ⟨⟨n0, n1, n2, n3, n4⟩, _⟩ := row_five (blk_keep hX HX.out)
      obtain ⟨l0, l1, l2, l3⟩ := row_four (blk_keep hX HY.out)
      exact ⟨n0, n1, n2, n3, n4, l0, l1, l2, l3, hX⟩
     have HC1 := containsO_any mr (W.heap.size + 1 + 1) ra rc rs hr ((((W.alloc (.cells #[.int .i64 cid, .int .i64 kind, .int .i64 mr, .int .i64 md, .slice pa pn pc] 72)).alloc (.cells #[.int .i64 cid, .slice ra rs.length rc, .slice da ds.length dc, .slice va nv vc] 50)).alloc (.cells #[.int .i64 mr] 3)).drew) (by
      have h := heap_alloc_new ((W.alloc (.cells #[.int .i64 cid, .int .i64 kind, .int .i64 mr, .int .i64 md, .slice pa pn pc] 72)).alloc (.cells #[.int .i64 cid, .slice ra rs.length rc, .slice da ds.length dc, .slice va nv vc] 50)) (.cells #[.int .i64 mr] 3)
      rw [show ((W.alloc (.cells #[.int .i64 cid, .int .i64 kind, .int .i64 mr, .int .i64 md, .slice pa pn pc] 72)).alloc (.cells #[.int .i64 cid, .slice ra rs.length rc, .slice da ds.length dc, .slice va nv vc] 50)).heap.size = W.heap.size + 1 + 1 by simp] at h
      exact h) (HLr.out.keep (b0.alloc (Nat.le_refl _) _).drew)
     have HC2 := containsO_any md (W.heap.size + 1 + 1 + 1) da dc ds hd (((((W.alloc (.cells #[.int .i64 cid, .int .i64 kind, .int .i64 mr, .int .i64 md, .slice pa pn pc] 72)).alloc (.cells #[.int .i64 cid, .slice ra rs.length rc, .slice da ds.length dc, .slice va nv vc] 50)).alloc (.cells #[.int .i64 mr] 3)).alloc (.cells #[.int .i64 md] 3)).drew) (by
      have h := heap_alloc_new (((W.alloc (.cells #[.int .i64 cid, .int .i64 kind, .int .i64 mr, .int .i64 md, .slice pa pn pc] 72)).alloc (.cells #[.int .i64 cid, .slice ra rs.length rc, .slice da ds.length dc, .slice va nv vc] 50)).alloc (.cells #[.int .i64 mr] 3)) (.cells #[.int .i64 md] 3)
      rw [show (((W.alloc (.cells #[.int .i64 cid, .int .i64 kind, .int .i64 mr, .int .i64 md, .slice pa pn pc] 72)).alloc (.cells #[.int .i64 cid, .slice ra rs.length rc, .slice da ds.length dc, .slice va nv vc] 50)).alloc (.cells #[.int .i64 mr] 3)).heap.size = W.heap.size + 1 + 1 + 1 by simp] at h
      exact h) (HLd.out.keep ((b0.alloc (Nat.le_refl _) _).alloc (by simp) _).drew)
     rw [H1.out] at HC1
     rw [Hb2.out] at HC2
     have HC1 : Hid _ := HC1
     have HC2 : Hid _ := HC2
     have HBx1 : Hid (Below W.heap.size W (((W.alloc (.cells #[.int .i64 cid, .int .i64 kind, .int .i64 mr, .int .i64 md, .slice pa pn pc] 72)).alloc (.cells #[.int .i64 cid, .slice ra rs.length rc, .slice da ds.length dc, .slice va nv vc] 50)).alloc (.cells #[.int .i64 mr] 3)).drew) := (HB.out.alloc (by simp; omega) _).drew
     have HBx2 : Hid (Below W.heap.size W ((((W.alloc (.cells #[.int .i64 cid, .int .i64 kind, .int .i64 mr, .int .i64 md, .slice pa pn pc] 72)).alloc (.cells #[.int .i64 cid, .slice ra rs.length rc, .slice da ds.length dc, .slice va nv vc] 50)).alloc (.cells #[.int .i64 mr] 3)).alloc (.cells #[.int .i64 md] 3)).drew) := ((HB.out.alloc (by simp; omega) _).alloc (by simp; omega) _).drew
     have HEg : Hid (headB rs = false → fitB cid mr md cid rs ds nv = if b1 = true ∨ b2 = true then false else decide (nv = cntE md ds)) := fun hh => by
      rw [HE0.out, H1.out, Hb2.out, hh]
      rfl
     cases b1 with
     | true =>
      by_cases hl0 : rs.length = 0
      · have HE : Hid _ := HEg.out (by rw [List.eq_nil_of_length_eq_zero hl0]; rfl)
        have q0 : decide ((0 : Int) < (rs.length : Int)) = false := by rw [decide_eq_false_iff_not]; omega
        have hnp : ¬ 0 < rs.length := by omega
        clear HE0 hl0 HEg
        go_enter Tryz.func109, Tryz.ntmps109
        go_wp2
        refine wp_region_held_drew (S := (fun X => X.cell? ⟨W.heap.size, 0, none⟩ = some (.int .i64 cid) ∧ X.cell? ⟨W.heap.size, 1, none⟩ = some (.int .i64 kind) ∧ X.cell? ⟨W.heap.size, 2, none⟩ = some (.int .i64 mr) ∧ X.cell? ⟨W.heap.size, 3, none⟩ = some (.int .i64 md) ∧ X.cell? ⟨W.heap.size, 4, none⟩ = some (.slice pa pn pc) ∧ X.cell? ⟨W.heap.size + 1, 0, none⟩ = some (.int .i64 cid) ∧ X.cell? ⟨W.heap.size + 1, 1, none⟩ = some (.slice ra rs.length rc) ∧ X.cell? ⟨W.heap.size + 1, 2, none⟩ = some (.slice da ds.length dc) ∧ X.cell? ⟨W.heap.size + 1, 3, none⟩ = some (.slice va nv vc) ∧ Below ((W.alloc (.cells #[.int .i64 cid, .int .i64 kind, .int .i64 mr, .int .i64 md, .slice pa pn pc] 72)).alloc (.cells #[.int .i64 cid, .slice ra rs.length rc, .slice da ds.length dc, .slice va nv vc] 50)).heap.size ((W.alloc (.cells #[.int .i64 cid, .int .i64 kind, .int .i64 mr, .int .i64 md, .slice pa pn pc] 72)).alloc (.cells #[.int .i64 cid, .slice ra rs.length rc, .slice da ds.length dc, .slice va nv vc] 50)) X)) (by kernel_rfl) (HN.out _ b0.drew) (fun hHeld => ?_)
        refine wpAnyH_take (i := 0) (oi := { dst := some 31, op := Op.fieldAddr 50 (Operand.tmp 3) 1, type := 0, pos := "column.go:89", after := #[], guard := none }) (v := ?v0x10) rfl (by kernel_rfl) (by kernel_rfl) (by kernel_rfl) (fun _ _ _ h => h) (Or.inl ⟨by rfl, ?hy0x10⟩) hHeld ?_
        case hy0x10 => (intro w hSw; (try dsimp only at hSw); go_simp; (first | done | with_reducible rfl))
        (try simp only [Act.put, List.setIfInBounds_toArray, List.set_cons_zero, List.set_cons_succ])
        refine wpAnyH_take (i := 1) (oi := { dst := some 32, op := Op.load 25 (Operand.tmp 31), type := 25, pos := "column.go:89", after := #[{ on := 0, ground := Ground.data }], guard := none }) (v := ?v1x10) rfl (by kernel_rfl) (by kernel_rfl) (by kernel_rfl) (fun _ _ _ h => h) (Or.inl ⟨by rfl, ?hy1x10⟩) hHeld ?_
        case hy1x10 => (intro w hSw; (try dsimp only at hSw); go_simp; (first | done | with_reducible rfl))
        (try simp only [Act.put, List.setIfInBounds_toArray, List.set_cons_zero, List.set_cons_succ])
        refine wpAnyH_take (i := 2) (oi := { dst := some 33, op := Op.move (Operand.tmp 5), type := 187, pos := "column.go:89", after := #[], guard := none }) (v := ?v2x10) rfl (by kernel_rfl) (by kernel_rfl) (by kernel_rfl) (fun _ _ _ h => h) (Or.inl ⟨by rfl, ?hy2x10⟩) hHeld ?_
        case hy2x10 => (intro w hSw; (try dsimp only at hSw); go_simp; (first | done | with_reducible rfl))
        (try simp only [Act.put, List.setIfInBounds_toArray, List.set_cons_zero, List.set_cons_succ])
        refine wpAnyH_take (i := 3) (oi := { dst := some 34, op := Op.fieldAddr 72 (Operand.tmp 2) 2, type := 0, pos := "column.go:89", after := #[], guard := none }) (v := ?v3x10) rfl (by kernel_rfl) (by kernel_rfl) (by kernel_rfl) (fun _ _ _ h => h) (Or.inl ⟨by rfl, ?hy3x10⟩) hHeld ?_
        case hy3x10 => (intro w hSw; (try dsimp only at hSw); go_simp; (first | done | with_reducible rfl))
        (try simp only [Act.put, List.setIfInBounds_toArray, List.set_cons_zero, List.set_cons_succ])
        refine wpAnyH_take (i := 4) (oi := { dst := some 35, op := Op.load 3 (Operand.tmp 34), type := 3, pos := "column.go:89", after := #[{ on := 3, ground := Ground.data }], guard := none }) (v := ?v4x10) rfl (by kernel_rfl) (by kernel_rfl) (by kernel_rfl) (fun _ _ _ h => h) (Or.inl ⟨by rfl, ?hy4x10⟩) hHeld ?_
        case hy4x10 => (intro w hSw; (try dsimp only at hSw); go_simp; (first | done | with_reducible rfl))
        (try simp only [Act.put, List.setIfInBounds_toArray, List.set_cons_zero, List.set_cons_succ])
        refine wpAnyH_ready (rs := [5]) (by kernel_rfl) (by simp) ?_
        refine AllReadyH.cons (o := { dst := some 36, op := Op.call { callee := Callee.value (Operand.tmp 33), args := #[Operand.tmp 35], argTypes := #[3] }, type := 118, pos := "column.go:89", after := #[{ on := 2, ground := Ground.data }, { on := 4, ground := Ground.data }], guard := none }) rfl (fun K hK => ?_) AllReadyH.nil
        go_simp
        (go_at_call 128; (with_reducible refine Calls.mono (outside_any mr _) ?_); rintro e w' ⟨rfl, hw'⟩; subst hw')
        go_wp2_with fail
        refine hK.out _ _ (HN.out _ ((b0.alloc (Nat.le_refl _) _).drew)) (fun hH2 => ?_)
        (try simp only [Act.put, List.setIfInBounds_toArray, List.set_cons_zero, List.set_cons_succ])
        refine wpAnyH_ready (rs := [6]) (by kernel_rfl) (by simp) ?_
        refine AllReadyH.cons (o := { dst := some 37, op := Op.call { callee := Callee.value (Operand.func 130), args := #[Operand.tmp 32, Operand.tmp 36], argTypes := #[25, 118] }, type := 4, pos := "column.go:89", after := #[{ on := 1, ground := Ground.data }, { on := 5, ground := Ground.data }, { on := 5, ground := Ground.chain }], guard := none }) rfl (fun K hK => ?_) AllReadyH.nil
        go_simp
        (go_at_call 130; refine Calls.mono HC1.out ?_; rintro e w' ⟨rfl, hw'⟩; subst hw')
        go_wp2_with fail
        refine hK.out _ _ (HN.out _ ((b0.alloc (Nat.le_refl _) _).drew)) (fun hH3 => ?_)
        (try simp only [Act.put, List.setIfInBounds_toArray, List.set_cons_zero, List.set_cons_succ])
        refine wpAnyH_take (i := 7) (oi := { dst := some 38, op := Op.move (Operand.tmp 37), type := 4, pos := "column.go:89", after := #[{ on := 6, ground := Ground.data }, { on := 6, ground := Ground.chain }], guard := none }) (v := ?v7x10) rfl (by kernel_rfl) (by kernel_rfl) (by kernel_rfl) (fun _ _ _ h => h) (Or.inl ⟨by rfl, ?hy7x10⟩) hH3 ?_
        case hy7x10 => (intro w hSw; (try dsimp only at hSw); go_simp; (first | done | with_reducible rfl))
        (try simp only [Act.put, List.setIfInBounds_toArray, List.set_cons_zero, List.set_cons_succ])
        refine wpAnyH_take (i := 8) (oi := { dst := some 39, op := Op.fieldAddr 50 (Operand.tmp 3) 2, type := 0, pos := "column.go:89", after := #[{ on := 7, ground := Ground.guard }], guard := some (7, false) }) (v := undef) rfl (by kernel_rfl) (by kernel_rfl) (by kernel_rfl) (fun _ _ _ h => h) (Or.inr ⟨by rfl, rfl⟩) hH3 ?_
        (try simp only [Act.put, List.setIfInBounds_toArray, List.set_cons_zero, List.set_cons_succ])
        refine wpAnyH_take (i := 9) (oi := { dst := some 40, op := Op.load 25 (Operand.tmp 39), type := 25, pos := "column.go:89", after := #[{ on := 8, ground := Ground.data }, { on := 7, ground := Ground.guard }], guard := some (7, false) }) (v := undef) rfl (by kernel_rfl) (by kernel_rfl) (by kernel_rfl) (fun _ _ _ h => h) (Or.inr ⟨by rfl, rfl⟩) hH3 ?_
        (try simp only [Act.put, List.setIfInBounds_toArray, List.set_cons_zero, List.set_cons_succ])
        refine wpAnyH_take (i := 10) (oi := { dst := some 41, op := Op.move (Operand.tmp 5), type := 187, pos := "column.go:89", after := #[{ on := 7, ground := Ground.guard }], guard := some (7, false) }) (v := undef) rfl (by kernel_rfl) (by kernel_rfl) (by kernel_rfl) (fun _ _ _ h => h) (Or.inr ⟨by rfl, rfl⟩) hH3 ?_
        (try simp only [Act.put, List.setIfInBounds_toArray, List.set_cons_zero, List.set_cons_succ])
        refine wpAnyH_take (i := 11) (oi := { dst := some 42, op := Op.fieldAddr 72 (Operand.tmp 2) 3, type := 0, pos := "column.go:89", after := #[{ on := 7, ground := Ground.guard }], guard := some (7, false) }) (v := undef) rfl (by kernel_rfl) (by kernel_rfl) (by kernel_rfl) (fun _ _ _ h => h) (Or.inr ⟨by rfl, rfl⟩) hH3 ?_
        (try simp only [Act.put, List.setIfInBounds_toArray, List.set_cons_zero, List.set_cons_succ])
        refine wpAnyH_take (i := 12) (oi := { dst := some 43, op := Op.load 3 (Operand.tmp 42), type := 3, pos := "column.go:89", after := #[{ on := 11, ground := Ground.data }, { on := 7, ground := Ground.guard }], guard := some (7, false) }) (v := undef) rfl (by kernel_rfl) (by kernel_rfl) (by kernel_rfl) (fun _ _ _ h => h) (Or.inr ⟨by rfl, rfl⟩) hH3 ?_
        (try simp only [Act.put, List.setIfInBounds_toArray, List.set_cons_zero, List.set_cons_succ])
        refine wpAnyH_take (i := 13) (oi := { dst := some 44, op := Op.call { callee := Callee.value (Operand.tmp 41), args := #[Operand.tmp 43], argTypes := #[3] }, type := 118, pos := "column.go:89", after := #[{ on := 10, ground := Ground.data }, { on := 12, ground := Ground.data }, { on := 7, ground := Ground.chain }, { on := 7, ground := Ground.guard }], guard := some (7, false) }) (v := undef) rfl (by kernel_rfl) (by kernel_rfl) (by kernel_rfl) (fun _ _ _ h => h) (Or.inr ⟨by rfl, rfl⟩) hH3 ?_
        (try simp only [Act.put, List.setIfInBounds_toArray, List.set_cons_zero, List.set_cons_succ])
        refine wpAnyH_take (i := 14) (oi := { dst := some 45, op := Op.call { callee := Callee.value (Operand.func 130), args := #[Operand.tmp 40, Operand.tmp 44], argTypes := #[25, 118] }, type := 4, pos := "column.go:89", after := #[{ on := 9, ground := Ground.data }, { on := 13, ground := Ground.data }, { on := 13, ground := Ground.chain }, { on := 7, ground := Ground.guard }], guard := some (7, false) }) (v := undef) rfl (by kernel_rfl) (by kernel_rfl) (by kernel_rfl) (fun _ _ _ h => h) (Or.inr ⟨by rfl, rfl⟩) hH3 ?_
        (try simp only [Act.put, List.setIfInBounds_toArray, List.set_cons_zero, List.set_cons_succ])
        refine wpAnyH_take (i := 15) (oi := { dst := some 46, op := Op.pick (Operand.tmp 38) (Operand.const (Value.bool true)) (Operand.tmp 45), type := 4, pos := "column.go:89", after := #[{ on := 7, ground := Ground.data }, { on := 14, ground := Ground.data }], guard := none }) (v := ?v15x10) rfl (by kernel_rfl) (by kernel_rfl) (by kernel_rfl) (fun _ _ _ h => h) (Or.inl ⟨by rfl, ?hy15x10⟩) hH3 ?_
        case hy15x10 => (intro w hSw; (try dsimp only at hSw); go_simp; (first | done | with_reducible rfl))
        (try simp only [Act.put, List.setIfInBounds_toArray, List.set_cons_zero, List.set_cons_succ])
        refine wpAnyH_done (by kernel_rfl) ?_ _
        all_goals
         go_wp2
         go_ret
         exact ⟨by rw [HE.out]; rfl, HBx1.out⟩
      · have hpos : 0 < rs.length := by omega
        have q0 : decide ((0 : Int) < (rs.length : Int)) = true := by rw [decide_eq_true_iff]; omega
        obtain ⟨rb, ro, era, hcell⟩ := HLr.out 0 (by simpa [i64s] using hpos)
        subst era
        obtain ⟨r, hr0⟩ : ∃ r, r = rs[0] := ⟨_, rfl⟩
        have hh := headB_at rs hpos
        rw [← hr0] at hh
        simp only [Nat.add_zero] at hcell
        rw [show (i64s rs)[0]'(by simpa [i64s] using hpos) = .int .i64 rs[0] by simp [i64s], ← hr0] at hcell
        have HH : Hid (headB rs = !(r == 0)) := hh
        clear hl0 hh hr0
        by_cases hz : r = 0
        · subst hz
          have HE : Hid _ := HEg.out (by rw [HH.out]; rfl)
          clear HE0 HEg HH
          go_enter Tryz.func109, Tryz.ntmps109
          go_wp2
          refine wp_region_held_drew (S := (fun X => X.cell? ⟨W.heap.size, 0, none⟩ = some (.int .i64 cid) ∧ X.cell? ⟨W.heap.size, 1, none⟩ = some (.int .i64 kind) ∧ X.cell? ⟨W.heap.size, 2, none⟩ = some (.int .i64 mr) ∧ X.cell? ⟨W.heap.size, 3, none⟩ = some (.int .i64 md) ∧ X.cell? ⟨W.heap.size, 4, none⟩ = some (.slice pa pn pc) ∧ X.cell? ⟨W.heap.size + 1, 0, none⟩ = some (.int .i64 cid) ∧ X.cell? ⟨W.heap.size + 1, 1, none⟩ = some (.slice (some ⟨rb, ro, none⟩) rs.length rc) ∧ X.cell? ⟨W.heap.size + 1, 2, none⟩ = some (.slice da ds.length dc) ∧ X.cell? ⟨W.heap.size + 1, 3, none⟩ = some (.slice va nv vc) ∧ Below ((W.alloc (.cells #[.int .i64 cid, .int .i64 kind, .int .i64 mr, .int .i64 md, .slice pa pn pc] 72)).alloc (.cells #[.int .i64 cid, .slice (some ⟨rb, ro, none⟩) rs.length rc, .slice da ds.length dc, .slice va nv vc] 50)).heap.size ((W.alloc (.cells #[.int .i64 cid, .int .i64 kind, .int .i64 mr, .int .i64 md, .slice pa pn pc] 72)).alloc (.cells #[.int .i64 cid, .slice (some ⟨rb, ro, none⟩) rs.length rc, .slice da ds.length dc, .slice va nv vc] 50)) X)) (by kernel_rfl) (HN.out _ b0.drew) (fun hHeld => ?_)
          refine wpAnyH_take (i := 0) (oi := { dst := some 31, op := Op.fieldAddr 50 (Operand.tmp 3) 1, type := 0, pos := "column.go:89", after := #[], guard := none }) (v := ?v0x12) rfl (by kernel_rfl) (by kernel_rfl) (by kernel_rfl) (fun _ _ _ h => h) (Or.inl ⟨by rfl, ?hy0x12⟩) hHeld ?_
          case hy0x12 => (intro w hSw; (try dsimp only at hSw); go_simp; (first | done | with_reducible rfl))
          (try simp only [Act.put, List.setIfInBounds_toArray, List.set_cons_zero, List.set_cons_succ])
          refine wpAnyH_take (i := 1) (oi := { dst := some 32, op := Op.load 25 (Operand.tmp 31), type := 25, pos := "column.go:89", after := #[{ on := 0, ground := Ground.data }], guard := none }) (v := ?v1x12) rfl (by kernel_rfl) (by kernel_rfl) (by kernel_rfl) (fun _ _ _ h => h) (Or.inl ⟨by rfl, ?hy1x12⟩) hHeld ?_
          case hy1x12 => (intro w hSw; (try dsimp only at hSw); go_simp; (first | done | with_reducible rfl))
          (try simp only [Act.put, List.setIfInBounds_toArray, List.set_cons_zero, List.set_cons_succ])
          refine wpAnyH_take (i := 2) (oi := { dst := some 33, op := Op.move (Operand.tmp 5), type := 187, pos := "column.go:89", after := #[], guard := none }) (v := ?v2x12) rfl (by kernel_rfl) (by kernel_rfl) (by kernel_rfl) (fun _ _ _ h => h) (Or.inl ⟨by rfl, ?hy2x12⟩) hHeld ?_
          case hy2x12 => (intro w hSw; (try dsimp only at hSw); go_simp; (first | done | with_reducible rfl))
          (try simp only [Act.put, List.setIfInBounds_toArray, List.set_cons_zero, List.set_cons_succ])
          refine wpAnyH_take (i := 3) (oi := { dst := some 34, op := Op.fieldAddr 72 (Operand.tmp 2) 2, type := 0, pos := "column.go:89", after := #[], guard := none }) (v := ?v3x12) rfl (by kernel_rfl) (by kernel_rfl) (by kernel_rfl) (fun _ _ _ h => h) (Or.inl ⟨by rfl, ?hy3x12⟩) hHeld ?_
          case hy3x12 => (intro w hSw; (try dsimp only at hSw); go_simp; (first | done | with_reducible rfl))
          (try simp only [Act.put, List.setIfInBounds_toArray, List.set_cons_zero, List.set_cons_succ])
          refine wpAnyH_take (i := 4) (oi := { dst := some 35, op := Op.load 3 (Operand.tmp 34), type := 3, pos := "column.go:89", after := #[{ on := 3, ground := Ground.data }], guard := none }) (v := ?v4x12) rfl (by kernel_rfl) (by kernel_rfl) (by kernel_rfl) (fun _ _ _ h => h) (Or.inl ⟨by rfl, ?hy4x12⟩) hHeld ?_
          case hy4x12 => (intro w hSw; (try dsimp only at hSw); go_simp; (first | done | with_reducible rfl))
          (try simp only [Act.put, List.setIfInBounds_toArray, List.set_cons_zero, List.set_cons_succ])
          refine wpAnyH_ready (rs := [5]) (by kernel_rfl) (by simp) ?_
          refine AllReadyH.cons (o := { dst := some 36, op := Op.call { callee := Callee.value (Operand.tmp 33), args := #[Operand.tmp 35], argTypes := #[3] }, type := 118, pos := "column.go:89", after := #[{ on := 2, ground := Ground.data }, { on := 4, ground := Ground.data }], guard := none }) rfl (fun K hK => ?_) AllReadyH.nil
          go_simp
          (go_at_call 128; (with_reducible refine Calls.mono (outside_any mr _) ?_); rintro e w' ⟨rfl, hw'⟩; subst hw')
          go_wp2_with fail
          refine hK.out _ _ (HN.out _ ((b0.alloc (Nat.le_refl _) _).drew)) (fun hH2 => ?_)
          (try simp only [Act.put, List.setIfInBounds_toArray, List.set_cons_zero, List.set_cons_succ])
          refine wpAnyH_ready (rs := [6]) (by kernel_rfl) (by simp) ?_
          refine AllReadyH.cons (o := { dst := some 37, op := Op.call { callee := Callee.value (Operand.func 130), args := #[Operand.tmp 32, Operand.tmp 36], argTypes := #[25, 118] }, type := 4, pos := "column.go:89", after := #[{ on := 1, ground := Ground.data }, { on := 5, ground := Ground.data }, { on := 5, ground := Ground.chain }], guard := none }) rfl (fun K hK => ?_) AllReadyH.nil
          go_simp
          (go_at_call 130; refine Calls.mono HC1.out ?_; rintro e w' ⟨rfl, hw'⟩; subst hw')
          go_wp2_with fail
          refine hK.out _ _ (HN.out _ ((b0.alloc (Nat.le_refl _) _).drew)) (fun hH3 => ?_)
          (try simp only [Act.put, List.setIfInBounds_toArray, List.set_cons_zero, List.set_cons_succ])
          refine wpAnyH_take (i := 7) (oi := { dst := some 38, op := Op.move (Operand.tmp 37), type := 4, pos := "column.go:89", after := #[{ on := 6, ground := Ground.data }, { on := 6, ground := Ground.chain }], guard := none }) (v := ?v7x12) rfl (by kernel_rfl) (by kernel_rfl) (by kernel_rfl) (fun _ _ _ h => h) (Or.inl ⟨by rfl, ?hy7x12⟩) hH3 ?_
          case hy7x12 => (intro w hSw; (try dsimp only at hSw); go_simp; (first | done | with_reducible rfl))
          (try simp only [Act.put, List.setIfInBounds_toArray, List.set_cons_zero, List.set_cons_succ])
          refine wpAnyH_take (i := 8) (oi := { dst := some 39, op := Op.fieldAddr 50 (Operand.tmp 3) 2, type := 0, pos := "column.go:89", after := #[{ on := 7, ground := Ground.guard }], guard := some (7, false) }) (v := undef) rfl (by kernel_rfl) (by kernel_rfl) (by kernel_rfl) (fun _ _ _ h => h) (Or.inr ⟨by rfl, rfl⟩) hH3 ?_
          (try simp only [Act.put, List.setIfInBounds_toArray, List.set_cons_zero, List.set_cons_succ])
          refine wpAnyH_take (i := 9) (oi := { dst := some 40, op := Op.load 25 (Operand.tmp 39), type := 25, pos := "column.go:89", after := #[{ on := 8, ground := Ground.data }, { on := 7, ground := Ground.guard }], guard := some (7, false) }) (v := undef) rfl (by kernel_rfl) (by kernel_rfl) (by kernel_rfl) (fun _ _ _ h => h) (Or.inr ⟨by rfl, rfl⟩) hH3 ?_
          (try simp only [Act.put, List.setIfInBounds_toArray, List.set_cons_zero, List.set_cons_succ])
          refine wpAnyH_take (i := 10) (oi := { dst := some 41, op := Op.move (Operand.tmp 5), type := 187, pos := "column.go:89", after := #[{ on := 7, ground := Ground.guard }], guard := some (7, false) }) (v := undef) rfl (by kernel_rfl) (by kernel_rfl) (by kernel_rfl) (fun _ _ _ h => h) (Or.inr ⟨by rfl, rfl⟩) hH3 ?_
          (try simp only [Act.put, List.setIfInBounds_toArray, List.set_cons_zero, List.set_cons_succ])
          refine wpAnyH_take (i := 11) (oi := { dst := some 42, op := Op.fieldAddr 72 (Operand.tmp 2) 3, type := 0, pos := "column.go:89", after := #[{ on := 7, ground := Ground.guard }], guard := some (7, false) }) (v := undef) rfl (by kernel_rfl) (by kernel_rfl) (by kernel_rfl) (fun _ _ _ h => h) (Or.inr ⟨by rfl, rfl⟩) hH3 ?_
          (try simp only [Act.put, List.setIfInBounds_toArray, List.set_cons_zero, List.set_cons_succ])
          refine wpAnyH_take (i := 12) (oi := { dst := some 43, op := Op.load 3 (Operand.tmp 42), type := 3, pos := "column.go:89", after := #[{ on := 11, ground := Ground.data }, { on := 7, ground := Ground.guard }], guard := some (7, false) }) (v := undef) rfl (by kernel_rfl) (by kernel_rfl) (by kernel_rfl) (fun _ _ _ h => h) (Or.inr ⟨by rfl, rfl⟩) hH3 ?_
          (try simp only [Act.put, List.setIfInBounds_toArray, List.set_cons_zero, List.set_cons_succ])
          refine wpAnyH_take (i := 13) (oi := { dst := some 44, op := Op.call { callee := Callee.value (Operand.tmp 41), args := #[Operand.tmp 43], argTypes := #[3] }, type := 118, pos := "column.go:89", after := #[{ on := 10, ground := Ground.data }, { on := 12, ground := Ground.data }, { on := 7, ground := Ground.chain }, { on := 7, ground := Ground.guard }], guard := some (7, false) }) (v := undef) rfl (by kernel_rfl) (by kernel_rfl) (by kernel_rfl) (fun _ _ _ h => h) (Or.inr ⟨by rfl, rfl⟩) hH3 ?_
          (try simp only [Act.put, List.setIfInBounds_toArray, List.set_cons_zero, List.set_cons_succ])
          refine wpAnyH_take (i := 14) (oi := { dst := some 45, op := Op.call { callee := Callee.value (Operand.func 130), args := #[Operand.tmp 40, Operand.tmp 44], argTypes := #[25, 118] }, type := 4, pos := "column.go:89", after := #[{ on := 9, ground := Ground.data }, { on := 13, ground := Ground.data }, { on := 13, ground := Ground.chain }, { on := 7, ground := Ground.guard }], guard := some (7, false) }) (v := undef) rfl (by kernel_rfl) (by kernel_rfl) (by kernel_rfl) (fun _ _ _ h => h) (Or.inr ⟨by rfl, rfl⟩) hH3 ?_
          (try simp only [Act.put, List.setIfInBounds_toArray, List.set_cons_zero, List.set_cons_succ])
          refine wpAnyH_take (i := 15) (oi := { dst := some 46, op := Op.pick (Operand.tmp 38) (Operand.const (Value.bool true)) (Operand.tmp 45), type := 4, pos := "column.go:89", after := #[{ on := 7, ground := Ground.data }, { on := 14, ground := Ground.data }], guard := none }) (v := ?v15x12) rfl (by kernel_rfl) (by kernel_rfl) (by kernel_rfl) (fun _ _ _ h => h) (Or.inl ⟨by rfl, ?hy15x12⟩) hH3 ?_
          case hy15x12 => (intro w hSw; (try dsimp only at hSw); go_simp; (first | done | with_reducible rfl))
          (try simp only [Act.put, List.setIfInBounds_toArray, List.set_cons_zero, List.set_cons_succ])
          refine wpAnyH_done (by kernel_rfl) ?_ _
          all_goals
           go_wp2
           go_ret
           exact ⟨by rw [HE.out]; rfl, HBx1.out⟩
        · have qr : (r == 0) = false := by simp [hz]
          have HF : Hid (fitB cid mr md cid rs ds nv = false) := (by show _ = _; rw [HE0.out, HH.out, qr]; rfl)
          clear hz HE0 HEg
          go_enter Tryz.func109, Tryz.ntmps109
          go_wp2
          go_ret
          exact ⟨by rw [HF.out]; rfl, HB.out⟩
     | false => have h := H1.out; rw [HT.out] at h; cases h
   · have HE : Hid (fitB lid mr md cid rs ds nv = false) := (by show _ = _; unfold fitB; rw [if_pos (.inr h2)])
     subst h1
     have q2 : ((rs.length : Int) == (ds.length : Int)) = false := by rw [beq_eq_false_iff_ne]; omega
     clear h2
     go_enter Tryz.func109, Tryz.ntmps109
     go_wp2
     go_ret
     exact ⟨by rw [HE.out]; rfl, HB.out⟩
 · have HE : Hid (fitB lid mr md cid rs ds nv = false) := (by show _ = _; unfold fitB; rw [if_pos (.inl h1)])
   have q1 : (cid == lid) = false := by simp [h1]
   clear h1
   go_enter Tryz.func109, Tryz.ntmps109
   go_wp2
   go_ret
   exact ⟨by rw [HE.out]; rfl, HB.out⟩
end Go.Proofs.YteonbmaokphleaaGreatDoor
