/-
  shred.columnOf: the column of a leaf.
  shred.Shred: the columns of right records.
-/
import Derived.Test.YtbicfjimlpdnkaaGreatDoorHBWriter
import Derived.Deep.RegionLaw
import Derived.Deep.RegionHeld3
namespace Go.Proofs.YtbicfjimlpdnkaaGreatDoor
open Go.RowKit
theorem own_sl {w : World} {B e size n : Nat} {v : Value} {xs : List Value} (h : w.ownsRow B e size v n xs) : ∃ a c, v = .slice a n c := by
  rcases h.2 with ⟨rfl, rfl⟩ | ⟨g, cap, cur, rfl, _⟩
  · exact ⟨none, 0, rfl⟩
  · exact ⟨_, cap, rfl⟩
def ents (md : Nat) (sts : List Stp) (ds : List Dt) : List Ent := ds.flatMap fun d => dn md sts d 0
theorem ents_step (md : Nat) (sts : List Stp) (ds : List Dt) (i : Nat) (h : i < ds.length) : ents md sts (ds.take (i + 1)) = ents md sts (ds.take i) ++ dn md sts ds[i] 0 := by
  rw [ents, ents, List.take_succ_eq_append_getElem h, List.flatMap_append]
  simp
theorem ents_le (md : Nat) (sts : List Stp) (ds : List Dt) (i : Nat) : (ents md sts (ds.take i)).length ≤ (ents md sts ds).length := by
  have h : ents md sts ds = ents md sts (ds.take i) ++ ents md sts (ds.drop i) := by rw [ents, ents, ents, ← List.flatMap_append, List.take_append_drop]
  rw [h, List.length_append]
  omega
theorem StPath.len {t : Tr} {ids : List Int} {df ls : Nat} {sts : List Stp} (h : StPath t ids df ls sts) : sts.length = ids.length := by
  induction h with
  | nil => rfl
  | cons t id rest df ls i hi hid first sts more ih => simp [ih]
theorem row_fourF {w : World} {g e : Nat} {x0 x1 x2 x3 : Value} (h : w.heap[g]? = some (.cells #[x0, x1, x2, x3] e (0, 0))) : w.frozen? ⟨g, 0, none⟩ = false ∧ w.frozen? ⟨g, 1, none⟩ = false ∧ w.frozen? ⟨g, 2, none⟩ = false ∧ w.frozen? ⟨g, 3, none⟩ = false := by
  refine ⟨?_, ?_, ?_, ?_⟩ <;> simp [World.frozen?, h]
theorem set_six {w1 : World} {bx : Nat} {x0 x1 x2 x3 x4 x5 : Value} {T : TypeId} (h : w1.heap[bx]? = some (.cells #[x0, x1, x2, x3, x4, x5] T (0, 0))) (y0 y1 y2 y3 y4 y5 : Value) :
    OneNew bx (.cells #[y0, y1, y2, y3, y4, y5] T (0, 0)) w1 ((((((w1.setCell ⟨bx, 0, none⟩ y0).setCell ⟨bx, 1, none⟩ y1).setCell ⟨bx, 2, none⟩ y2).setCell ⟨bx, 3, none⟩ y3).setCell ⟨bx, 4, none⟩ y4).setCell ⟨bx, 5, none⟩ y5) := by
  have h0 : OneNew bx (.cells #[x0, x1, x2, x3, x4, x5] T (0, 0)) w1 w1 := ⟨rfl, rfl, rfl, rfl, h, fun _ _ => rfl⟩
  have h5 := (((((h0.set (j := 0) y0).set (j := 1) y1).set (j := 2) y2).set (j := 3) y3).set (j := 4) y4).set (j := 5) y5
  simpa using h5
theorem set_four {w1 : World} {bx : Nat} {x0 x1 x2 x3 : Value} {T : TypeId} (h : w1.heap[bx]? = some (.cells #[x0, x1, x2, x3] T (0, 0))) (y0 y1 y2 y3 : Value) :
    OneNew bx (.cells #[y0, y1, y2, y3] T (0, 0)) w1 ((((w1.setCell ⟨bx, 0, none⟩ y0).setCell ⟨bx, 1, none⟩ y1).setCell ⟨bx, 2, none⟩ y2).setCell ⟨bx, 3, none⟩ y3) := by
  have h0 : OneNew bx (.cells #[x0, x1, x2, x3] T (0, 0)) w1 w1 := ⟨rfl, rfl, rfl, rfl, h, fun _ _ => rfl⟩
  have h5 := (((h0.set (j := 0) y0).set (j := 1) y1).set (j := 2) y2).set (j := 3) y3
  simpa using h5
theorem results_ct {P : Program} {fn : Func} {p u : Tmp} {t1 : TypeId} (h : fn.results = #[.cell p t1, .tmp u]) (tmps : Array Value) (w : World) (a : Addr) (x : Value)
    (hp : tmps.getD p undef = .pointer (some a)) (hx : (loadVar t1 a).run P w = .ok x w) : (results fn tmps).run P w = .ok (.tuple #[x, tmps.getD u undef]) w := by
  have hp' : tmps[p]?.getD undef = .pointer (some a) := by simpa using hp
  simp [results, h, hp', asAddr, Result.andThen, hx]
set_option maxRecDepth 100000 in
theorem loadCol {W : World} {g : Nat} {x0 x1 x2 x3 : Value} (h0 : W.cell? ⟨g, 0, none⟩ = some x0) (h1 : W.cell? ⟨g, 1, none⟩ = some x1) (h2 : W.cell? ⟨g, 2, none⟩ = some x2) (h3 : W.cell? ⟨g, 3, none⟩ = some x3) : (loadVar 42 ⟨g, 0, none⟩).run Tryz.prog W = .ok (.agg #[x0, x1, x2, x3]) W := by go_simp
theorem CoS.begin {W' : World} {g N : Nat} {sa : Option Addr} {sc : Nat} {sts : List Stp} {md : Nat} {id : Int} (hc : W'.heap[g]? = some (.cells #[.slice sa sts.length sc, .int .i64 (md : Nat), .int .i64 id, .slice none 0 0, .slice none 0 0, .slice none 0 0] 85 (0, 0))) (hr : W'.ownsRow N 99 4 (.slice sa sts.length sc) sts.length (sts.flatMap stC)) : CoS g N (.slice sa sts.length sc) sts md id [] [] [] W' :=
  ⟨_, _, _, hc, hr, World.ownsRow_nil _ _ _ _, World.ownsRow_nil _ _ _ _, World.ownsRow_nil _ _ _ _, fun k hk => by simp [Value.ownBlock] at hk⟩
theorem own_low {W : World} {N N' e s n : Nat} {v : Value} {xs : List Value} (h : W.ownsRow N e s v n xs) (hN : N' ≤ N) : W.ownsRow N' e s v n xs := ⟨h.1, h.2.imp id (fun ⟨g, cap, cur, e1, e2, e3⟩ => ⟨g, cap, cur, e1, by omega, e3⟩)⟩
theorem row_sixA {w : World} {g e : Nat} {x0 x1 x2 x3 x4 x5 : Value} (h : w.heap[g]? = some (.cells #[x0, x1, x2, x3, x4, x5] e (0, 0))) :
    w.frozen? ⟨g, 0, none⟩ = false ∧ w.frozen? ⟨g, 1, none⟩ = false ∧ w.frozen? ⟨g, 2, none⟩ = false ∧ w.frozen? ⟨g, 3, none⟩ = false ∧ w.frozen? ⟨g, 4, none⟩ = false ∧ w.frozen? ⟨g, 5, none⟩ = false := by
  refine ⟨?_, ?_, ?_, ?_, ?_, ?_⟩ <;> simp [World.frozen?, h]
set_option maxRecDepth 100000 in
set_option maxHeartbeats 8000000 in
theorem columnOf_any (t : Tr) (hsm : t.Sm) (a : Option Addr) (c : Nat) (f : Lf) (hids : f.path.length ≤ 1000) (pa : Option Addr) (pc : Nat) (sts : List Stp) (ds : List Dt) (hds : ds.length ≤ 100) (da : Option Addr) (dc : Nat) (W : World) (hl : LiesN W (fun b => b < W.heap.size) a t.sub) (hp : Lies W pa (i64s f.path)) (hst : StPath t f.path 0 0 sts) (hld : LiesD W (fun b => b < W.heap.size) da ds)
    (hfit : ∀ j (h : j < ds.length), ds[j].Sm ∧ FitS sts ds[j]) (hmany : (ents f.md sts ds).length ≤ 20000) :
    Calls Tryz.prog 18 #[nodeV t a c, .agg #[.int .i64 f.id, .int .i64 f.kind, .int .i64 (f.mr : Nat), .int .i64 (f.md : Nat), .slice pa f.path.length pc], .slice da ds.length dc] W fun e w' => (∃ rv dv vv, e = .returned (.tuple #[.agg #[.int .i64 f.id, rv, dv, vv], .nilIface]) ∧ w'.ownsRow W.heap.size 3 1 rv (eR (ents f.md sts ds)).length (i64s (eR (ents f.md sts ds))) ∧ w'.ownsRow W.heap.size 3 1 dv (eD (ents f.md sts ds)).length (i64s (eD (ents f.md sts ds))) ∧ w'.ownsRow W.heap.size 56 3 vv (eV (ents f.md sts ds)).length (vcells (eV (ents f.md sts ds)))) ∧ Below W.heap.size W w' := by
  have hb3 : Below W.heap.size W (((W.alloc (.cells #[.int .i64 t.id, .string t.nm, .int .i64 t.rep, .int .i64 t.kind, .slice a t.sub.length c] 24)).alloc (.cells #[.int .i64 f.id, .int .i64 f.kind, .int .i64 (f.mr : Nat), .int .i64 (f.md : Nat), .slice pa f.path.length pc] 67)).alloc (.cells #[.int .i64 0, .slice none 0 0, .slice none 0 0, .slice none 0 0] 42)) := (((Below.refl _ _).alloc (Nat.le_refl _) _).alloc (by simp) _).alloc (by simp; omega) _
  have hb4 : Below W.heap.size W ((((W.alloc (.cells #[.int .i64 t.id, .string t.nm, .int .i64 t.rep, .int .i64 t.kind, .slice a t.sub.length c] 24)).alloc (.cells #[.int .i64 f.id, .int .i64 f.kind, .int .i64 (f.mr : Nat), .int .i64 (f.md : Nat), .slice pa f.path.length pc] 67)).alloc (.cells #[.int .i64 0, .slice none 0 0, .slice none 0 0, .slice none 0 0] 42)).alloc (.cells #[.slice none 0 0, .int .i64 0, .int .i64 0, .slice none 0 0, .slice none 0 0, .slice none 0 0] 85)) := hb3.alloc (by simp; omega) _
  have HA : Hid _ := stepsTo_any t hsm a c f.id f.kind f.mr f.md f.path hids pa pc sts (((W.alloc (.cells #[.int .i64 t.id, .string t.nm, .int .i64 t.rep, .int .i64 t.kind, .slice a t.sub.length c] 24)).alloc (.cells #[.int .i64 f.id, .int .i64 f.kind, .int .i64 (f.mr : Nat), .int .i64 (f.md : Nat), .slice pa f.path.length pc] 67)).alloc (.cells #[.int .i64 0, .slice none 0 0, .slice none 0 0, .slice none 0 0] 42)).drew ((hl.stay (fun b h _ => h) (fun b _ h => hb3.block b h)).stay (fun b h _ => by simp; omega) (fun _ _ _ => rfl)) ((hp.keep hb3.drew)) hst
  have HZ : Hid _ := stepsTo_any t hsm a c f.id f.kind f.mr f.md f.path hids pa pc sts ((((W.alloc (.cells #[.int .i64 t.id, .string t.nm, .int .i64 t.rep, .int .i64 t.kind, .slice a t.sub.length c] 24)).alloc (.cells #[.int .i64 f.id, .int .i64 f.kind, .int .i64 (f.mr : Nat), .int .i64 (f.md : Nat), .slice pa f.path.length pc] 67)).alloc (.cells #[.int .i64 0, .slice none 0 0, .slice none 0 0, .slice none 0 0] 42)).alloc (.cells #[.slice none 0 0, .int .i64 0, .int .i64 0, .slice none 0 0, .slice none 0 0, .slice none 0 0] 85)).drew ((hl.stay (fun b h _ => h) (fun b _ h => hb4.block b h)).stay (fun b h _ => by simp; omega) (fun _ _ _ => rfl)) ((hp.keep hb4.drew)) hst
  have HB3 : Hid (Below W.heap.size W (((W.alloc (.cells #[.int .i64 t.id, .string t.nm, .int .i64 t.rep, .int .i64 t.kind, .slice a t.sub.length c] 24)).alloc (.cells #[.int .i64 f.id, .int .i64 f.kind, .int .i64 (f.mr : Nat), .int .i64 (f.md : Nat), .slice pa f.path.length pc] 67)).alloc (.cells #[.int .i64 0, .slice none 0 0, .slice none 0 0, .slice none 0 0] 42))) := hb3
  have HB4 : Hid (Below W.heap.size W ((((W.alloc (.cells #[.int .i64 t.id, .string t.nm, .int .i64 t.rep, .int .i64 t.kind, .slice a t.sub.length c] 24)).alloc (.cells #[.int .i64 f.id, .int .i64 f.kind, .int .i64 (f.mr : Nat), .int .i64 (f.md : Nat), .slice pa f.path.length pc] 67)).alloc (.cells #[.int .i64 0, .slice none 0 0, .slice none 0 0, .slice none 0 0] 42)).alloc (.cells #[.slice none 0 0, .int .i64 0, .int .i64 0, .slice none 0 0, .slice none 0 0, .slice none 0 0] 85))) := hb4
  have HX3 : Hid ((((W.alloc (.cells #[.int .i64 t.id, .string t.nm, .int .i64 t.rep, .int .i64 t.kind, .slice a t.sub.length c] 24)).alloc (.cells #[.int .i64 f.id, .int .i64 f.kind, .int .i64 (f.mr : Nat), .int .i64 (f.md : Nat), .slice pa f.path.length pc] 67)).alloc (.cells #[.int .i64 0, .slice none 0 0, .slice none 0 0, .slice none 0 0] 42)).drew.heap[W.heap.size + 1]? = some (.cells #[.int .i64 f.id, .int .i64 f.kind, .int .i64 (f.mr : Nat), .int .i64 (f.md : Nat), .slice pa f.path.length pc] 67 (0, 0))) := (by
    have h := heap_alloc_new (W.alloc (.cells #[.int .i64 t.id, .string t.nm, .int .i64 t.rep, .int .i64 t.kind, .slice a t.sub.length c] 24)) (.cells #[.int .i64 f.id, .int .i64 f.kind, .int .i64 (f.mr : Nat), .int .i64 (f.md : Nat), .slice pa f.path.length pc] 67)
    rw [show (W.alloc (.cells #[.int .i64 t.id, .string t.nm, .int .i64 t.rep, .int .i64 t.kind, .slice a t.sub.length c] 24)).heap.size = W.heap.size + 1 by simp] at h
    exact blk_alloc h)
  have HX4 : Hid (((((W.alloc (.cells #[.int .i64 t.id, .string t.nm, .int .i64 t.rep, .int .i64 t.kind, .slice a t.sub.length c] 24)).alloc (.cells #[.int .i64 f.id, .int .i64 f.kind, .int .i64 (f.mr : Nat), .int .i64 (f.md : Nat), .slice pa f.path.length pc] 67)).alloc (.cells #[.int .i64 0, .slice none 0 0, .slice none 0 0, .slice none 0 0] 42)).alloc (.cells #[.slice none 0 0, .int .i64 0, .int .i64 0, .slice none 0 0, .slice none 0 0, .slice none 0 0] 85)).drew.heap[W.heap.size + 1]? = some (.cells #[.int .i64 f.id, .int .i64 f.kind, .int .i64 (f.mr : Nat), .int .i64 (f.md : Nat), .slice pa f.path.length pc] 67 (0, 0))) := blk_alloc (w := (((W.alloc (.cells #[.int .i64 t.id, .string t.nm, .int .i64 t.rep, .int .i64 t.kind, .slice a t.sub.length c] 24)).alloc (.cells #[.int .i64 f.id, .int .i64 f.kind, .int .i64 (f.mr : Nat), .int .i64 (f.md : Nat), .slice pa f.path.length pc] 67)).alloc (.cells #[.int .i64 0, .slice none 0 0, .slice none 0 0, .slice none 0 0] 42))) HX3.out
  have HZ4 : Hid (((((W.alloc (.cells #[.int .i64 t.id, .string t.nm, .int .i64 t.rep, .int .i64 t.kind, .slice a t.sub.length c] 24)).alloc (.cells #[.int .i64 f.id, .int .i64 f.kind, .int .i64 (f.mr : Nat), .int .i64 (f.md : Nat), .slice pa f.path.length pc] 67)).alloc (.cells #[.int .i64 0, .slice none 0 0, .slice none 0 0, .slice none 0 0] 42)).alloc (.cells #[.slice none 0 0, .int .i64 0, .int .i64 0, .slice none 0 0, .slice none 0 0, .slice none 0 0] 85)).drew.heap[W.heap.size + 1 + 1 + 1]? = some (.cells #[.slice none 0 0, .int .i64 0, .int .i64 0, .slice none 0 0, .slice none 0 0, .slice none 0 0] 85 (0, 0))) := (by
    have h := heap_alloc_new (((W.alloc (.cells #[.int .i64 t.id, .string t.nm, .int .i64 t.rep, .int .i64 t.kind, .slice a t.sub.length c] 24)).alloc (.cells #[.int .i64 f.id, .int .i64 f.kind, .int .i64 (f.mr : Nat), .int .i64 (f.md : Nat), .slice pa f.path.length pc] 67)).alloc (.cells #[.int .i64 0, .slice none 0 0, .slice none 0 0, .slice none 0 0] 42)) (.cells #[.slice none 0 0, .int .i64 0, .int .i64 0, .slice none 0 0, .slice none 0 0, .slice none 0 0] 85)
    rw [show (((W.alloc (.cells #[.int .i64 t.id, .string t.nm, .int .i64 t.rep, .int .i64 t.kind, .slice a t.sub.length c] 24)).alloc (.cells #[.int .i64 f.id, .int .i64 f.kind, .int .i64 (f.mr : Nat), .int .i64 (f.md : Nat), .slice pa f.path.length pc] 67)).alloc (.cells #[.int .i64 0, .slice none 0 0, .slice none 0 0, .slice none 0 0] 42)).heap.size = W.heap.size + 1 + 1 + 1 by simp] at h
    exact h)
  have HXn : Hid ((((W.alloc (.cells #[.int .i64 t.id, .string t.nm, .int .i64 t.rep, .int .i64 t.kind, .slice a t.sub.length c] 24)).alloc (.cells #[.int .i64 f.id, .int .i64 f.kind, .int .i64 (f.mr : Nat), .int .i64 (f.md : Nat), .slice pa f.path.length pc] 67)).alloc (.cells #[.int .i64 0, .slice none 0 0, .slice none 0 0, .slice none 0 0] 42)).heap[W.heap.size]? = some (.cells #[.int .i64 t.id, .string t.nm, .int .i64 t.rep, .int .i64 t.kind, .slice a t.sub.length c] 24 (0, 0))) := blk_alloc (blk_alloc (heap_alloc_new W _))
  have HCol : Hid ((((W.alloc (.cells #[.int .i64 t.id, .string t.nm, .int .i64 t.rep, .int .i64 t.kind, .slice a t.sub.length c] 24)).alloc (.cells #[.int .i64 f.id, .int .i64 f.kind, .int .i64 (f.mr : Nat), .int .i64 (f.md : Nat), .slice pa f.path.length pc] 67)).alloc (.cells #[.int .i64 0, .slice none 0 0, .slice none 0 0, .slice none 0 0] 42)).heap[W.heap.size + 1 + 1]? = some (.cells #[.int .i64 0, .slice none 0 0, .slice none 0 0, .slice none 0 0] 42 (0, 0))) := (by
    have h := heap_alloc_new ((W.alloc (.cells #[.int .i64 t.id, .string t.nm, .int .i64 t.rep, .int .i64 t.kind, .slice a t.sub.length c] 24)).alloc (.cells #[.int .i64 f.id, .int .i64 f.kind, .int .i64 (f.mr : Nat), .int .i64 (f.md : Nat), .slice pa f.path.length pc] 67)) (.cells #[.int .i64 0, .slice none 0 0, .slice none 0 0, .slice none 0 0] 42)
    rwa [show ((W.alloc (.cells #[.int .i64 t.id, .string t.nm, .int .i64 t.rep, .int .i64 t.kind, .slice a t.sub.length c] 24)).alloc (.cells #[.int .i64 f.id, .int .i64 f.kind, .int .i64 (f.mr : Nat), .int .i64 (f.md : Nat), .slice pa f.path.length pc] 67)).heap.size = W.heap.size + 1 + 1 by simp] at h)
  clear hb3 hb4
  have HLd : Hid (LiesD W (fun b => b < W.heap.size) da ds) := hld
  have HFit : Hid (∀ j (h : j < ds.length), ds[j].Sm ∧ FitS sts ds[j]) := hfit
  have HMany : Hid ((ents f.md sts ds).length ≤ 20000) := hmany
  have HSl : Hid (sts.length ≤ 1000) := (by show _ ≤ _; have := hst.len; omega)
  clear hl hp hst hsm hld hfit hmany
  unfold nodeV
  go_enter Tryz.func18, Tryz.ntmps18
  go_wp2
  have b0 : Below (((W.alloc (.cells #[.int .i64 t.id, .string t.nm, .int .i64 t.rep, .int .i64 t.kind, .slice a t.sub.length c] 24)).alloc (.cells #[.int .i64 f.id, .int .i64 f.kind, .int .i64 (f.mr : Nat), .int .i64 (f.md : Nat), .slice pa f.path.length pc] 67)).alloc (.cells #[.int .i64 0, .slice none 0 0, .slice none 0 0, .slice none 0 0] 42)).heap.size (((W.alloc (.cells #[.int .i64 t.id, .string t.nm, .int .i64 t.rep, .int .i64 t.kind, .slice a t.sub.length c] 24)).alloc (.cells #[.int .i64 f.id, .int .i64 f.kind, .int .i64 (f.mr : Nat), .int .i64 (f.md : Nat), .slice pa f.path.length pc] 67)).alloc (.cells #[.int .i64 0, .slice none 0 0, .slice none 0 0, .slice none 0 0] 42)) (((W.alloc (.cells #[.int .i64 t.id, .string t.nm, .int .i64 t.rep, .int .i64 t.kind, .slice a t.sub.length c] 24)).alloc (.cells #[.int .i64 f.id, .int .i64 f.kind, .int .i64 (f.mr : Nat), .int .i64 (f.md : Nat), .slice pa f.path.length pc] 67)).alloc (.cells #[.int .i64 0, .slice none 0 0, .slice none 0 0, .slice none 0 0] 42)) := Below.refl _ _
  have HN : Hid (∀ X, Below (((W.alloc (.cells #[.int .i64 t.id, .string t.nm, .int .i64 t.rep, .int .i64 t.kind, .slice a t.sub.length c] 24)).alloc (.cells #[.int .i64 f.id, .int .i64 f.kind, .int .i64 (f.mr : Nat), .int .i64 (f.md : Nat), .slice pa f.path.length pc] 67)).alloc (.cells #[.int .i64 0, .slice none 0 0, .slice none 0 0, .slice none 0 0] 42)).heap.size (((W.alloc (.cells #[.int .i64 t.id, .string t.nm, .int .i64 t.rep, .int .i64 t.kind, .slice a t.sub.length c] 24)).alloc (.cells #[.int .i64 f.id, .int .i64 f.kind, .int .i64 (f.mr : Nat), .int .i64 (f.md : Nat), .slice pa f.path.length pc] 67)).alloc (.cells #[.int .i64 0, .slice none 0 0, .slice none 0 0, .slice none 0 0] 42)) X → X.cell? ⟨W.heap.size, 0, none⟩ = some (.int .i64 t.id) ∧ X.cell? ⟨W.heap.size, 1, none⟩ = some (.string t.nm) ∧ X.cell? ⟨W.heap.size, 2, none⟩ = some (.int .i64 t.rep) ∧ X.cell? ⟨W.heap.size, 3, none⟩ = some (.int .i64 t.kind) ∧ X.cell? ⟨W.heap.size, 4, none⟩ = some (.slice a t.sub.length c) ∧ X.cell? ⟨W.heap.size + 1, 0, none⟩ = some (.int .i64 f.id) ∧ X.cell? ⟨W.heap.size + 1, 1, none⟩ = some (.int .i64 f.kind) ∧ X.cell? ⟨W.heap.size + 1, 2, none⟩ = some (.int .i64 (f.mr : Nat)) ∧ X.cell? ⟨W.heap.size + 1, 3, none⟩ = some (.int .i64 (f.md : Nat)) ∧ X.cell? ⟨W.heap.size + 1, 4, none⟩ = some (.slice pa f.path.length pc) ∧ Below (((W.alloc (.cells #[.int .i64 t.id, .string t.nm, .int .i64 t.rep, .int .i64 t.kind, .slice a t.sub.length c] 24)).alloc (.cells #[.int .i64 f.id, .int .i64 f.kind, .int .i64 (f.mr : Nat), .int .i64 (f.md : Nat), .slice pa f.path.length pc] 67)).alloc (.cells #[.int .i64 0, .slice none 0 0, .slice none 0 0, .slice none 0 0] 42)).heap.size (((W.alloc (.cells #[.int .i64 t.id, .string t.nm, .int .i64 t.rep, .int .i64 t.kind, .slice a t.sub.length c] 24)).alloc (.cells #[.int .i64 f.id, .int .i64 f.kind, .int .i64 (f.mr : Nat), .int .i64 (f.md : Nat), .slice pa f.path.length pc] 67)).alloc (.cells #[.int .i64 0, .slice none 0 0, .slice none 0 0, .slice none 0 0] 42)) X) := fun X hX => by
    obtain ⟨⟨n0, n1, n2, n3, n4⟩, _⟩ := row_five (blk_keep hX HXn.out)
    obtain ⟨⟨l0, l1, l2, l3, l4⟩, _⟩ := row_five (blk_keep hX HX3.out)
    exact ⟨n0, n1, n2, n3, n4, l0, l1, l2, l3, l4, hX⟩
  go_region_held3 (fun X => X.cell? ⟨W.heap.size, 0, none⟩ = some (.int .i64 t.id) ∧ X.cell? ⟨W.heap.size, 1, none⟩ = some (.string t.nm) ∧ X.cell? ⟨W.heap.size, 2, none⟩ = some (.int .i64 t.rep) ∧ X.cell? ⟨W.heap.size, 3, none⟩ = some (.int .i64 t.kind) ∧ X.cell? ⟨W.heap.size, 4, none⟩ = some (.slice a t.sub.length c) ∧ X.cell? ⟨W.heap.size + 1, 0, none⟩ = some (.int .i64 f.id) ∧ X.cell? ⟨W.heap.size + 1, 1, none⟩ = some (.int .i64 f.kind) ∧ X.cell? ⟨W.heap.size + 1, 2, none⟩ = some (.int .i64 (f.mr : Nat)) ∧ X.cell? ⟨W.heap.size + 1, 3, none⟩ = some (.int .i64 (f.md : Nat)) ∧ X.cell? ⟨W.heap.size + 1, 4, none⟩ = some (.slice pa f.path.length pc) ∧ Below (((W.alloc (.cells #[.int .i64 t.id, .string t.nm, .int .i64 t.rep, .int .i64 t.kind, .slice a t.sub.length c] 24)).alloc (.cells #[.int .i64 f.id, .int .i64 f.kind, .int .i64 (f.mr : Nat), .int .i64 (f.md : Nat), .slice pa f.path.length pc] 67)).alloc (.cells #[.int .i64 0, .slice none 0 0, .slice none 0 0, .slice none 0 0] 42)).heap.size (((W.alloc (.cells #[.int .i64 t.id, .string t.nm, .int .i64 t.rep, .int .i64 t.kind, .slice a t.sub.length c] 24)).alloc (.cells #[.int .i64 f.id, .int .i64 f.kind, .int .i64 (f.mr : Nat), .int .i64 (f.md : Nat), .slice pa f.path.length pc] 67)).alloc (.cells #[.int .i64 0, .slice none 0 0, .slice none 0 0, .slice none 0 0] 42)) X) (first | (with_reducible refine HN.out _ ?_; repeat' (first | with_reducible assumption | with_reducible exact b0.drew | with_reducible exact b0 | with_reducible exact (b0.alloc (Nat.le_refl _) _).drew | with_reducible refine Below.setCell ?_ ?_ _ | with_reducible refine Below.alloc ?_ ?_ _ | with_reducible exact Below.size (by assumption) | (simp; done) | (simp; omega) | omega))) (first | (go_at_call 32; refine Calls.mono HA.out ?_; rintro e w1 ⟨⟨sv, rfl, hrow⟩, hb1⟩; obtain ⟨sa, sc, rfl⟩ := own_sl hrow; have hbC : Below (((W.alloc (.cells #[.int .i64 t.id, .string t.nm, .int .i64 t.rep, .int .i64 t.kind, .slice a t.sub.length c] 24)).alloc (.cells #[.int .i64 f.id, .int .i64 f.kind, .int .i64 (f.mr : Nat), .int .i64 (f.md : Nat), .slice pa f.path.length pc] 67)).alloc (.cells #[.int .i64 0, .slice none 0 0, .slice none 0 0, .slice none 0 0] 42)).heap.size (((W.alloc (.cells #[.int .i64 t.id, .string t.nm, .int .i64 t.rep, .int .i64 t.kind, .slice a t.sub.length c] 24)).alloc (.cells #[.int .i64 f.id, .int .i64 f.kind, .int .i64 (f.mr : Nat), .int .i64 (f.md : Nat), .slice pa f.path.length pc] 67)).alloc (.cells #[.int .i64 0, .slice none 0 0, .slice none 0 0, .slice none 0 0] 42)) w1 := (Below.refl _ _).drew.trans hb1; have HRow : Hid (w1.ownsRow (((W.alloc (.cells #[.int .i64 t.id, .string t.nm, .int .i64 t.rep, .int .i64 t.kind, .slice a t.sub.length c] 24)).alloc (.cells #[.int .i64 f.id, .int .i64 f.kind, .int .i64 (f.mr : Nat), .int .i64 (f.md : Nat), .slice pa f.path.length pc] 67)).alloc (.cells #[.int .i64 0, .slice none 0 0, .slice none 0 0, .slice none 0 0] 42)).heap.size 99 4 (.slice sa sts.length sc) sts.length (sts.flatMap stC)) := hrow; clear hrow hb1) | (go_at_call 32; refine Calls.mono HZ.out ?_; rintro e w1 ⟨⟨sv, rfl, hrow⟩, hb1⟩; obtain ⟨sa, sc, rfl⟩ := own_sl hrow; obtain ⟨z0, z1, z2, z3, z4, z5⟩ := row_six (blk_keep hb1 HZ4.out); obtain ⟨y0, y1, y2, y3, y4, y5⟩ := row_sixA (blk_keep hb1 HZ4.out); have hbC : Below (((W.alloc (.cells #[.int .i64 t.id, .string t.nm, .int .i64 t.rep, .int .i64 t.kind, .slice a t.sub.length c] 24)).alloc (.cells #[.int .i64 f.id, .int .i64 f.kind, .int .i64 (f.mr : Nat), .int .i64 (f.md : Nat), .slice pa f.path.length pc] 67)).alloc (.cells #[.int .i64 0, .slice none 0 0, .slice none 0 0, .slice none 0 0] 42)).heap.size (((W.alloc (.cells #[.int .i64 t.id, .string t.nm, .int .i64 t.rep, .int .i64 t.kind, .slice a t.sub.length c] 24)).alloc (.cells #[.int .i64 f.id, .int .i64 f.kind, .int .i64 (f.mr : Nat), .int .i64 (f.md : Nat), .slice pa f.path.length pc] 67)).alloc (.cells #[.int .i64 0, .slice none 0 0, .slice none 0 0, .slice none 0 0] 42)) w1 := ((b0.drew.alloc (by simp) _)).trans (hb1.mono (by simp)); have HRow : Hid (w1.ownsRow ((((W.alloc (.cells #[.int .i64 t.id, .string t.nm, .int .i64 t.rep, .int .i64 t.kind, .slice a t.sub.length c] 24)).alloc (.cells #[.int .i64 f.id, .int .i64 f.kind, .int .i64 (f.mr : Nat), .int .i64 (f.md : Nat), .slice pa f.path.length pc] 67)).alloc (.cells #[.int .i64 0, .slice none 0 0, .slice none 0 0, .slice none 0 0] 42)).heap.size + 1) 99 4 (.slice sa sts.length sc) sts.length (sts.flatMap stC)) := (by show World.ownsRow _ _ _ _ _ _ _; simpa using hrow); have HG : Hid _ := blk_keep hb1 HZ4.out; clear hrow hb1))
  · have HRes : Hid ((w1.alloc (.cells #[.slice sa sts.length sc, .int .i64 (f.md : Nat), .int .i64 f.id, .slice none 0 0, .slice none 0 0, .slice none 0 0] 85)).heap[W.heap.size + 1 + 1]? = some (.cells #[.int .i64 0, .slice none 0 0, .slice none 0 0, .slice none 0 0] 42 (0, 0))) := blk_alloc (blk_keep hbC HCol.out)
    have HBl : Hid (Below W.heap.size W (w1.alloc (.cells #[.slice sa sts.length sc, .int .i64 (f.md : Nat), .int .i64 f.id, .slice none 0 0, .slice none 0 0, .slice none 0 0] 85))) := (HB3.out.trans (hbC.mono (by simp; omega))).alloc (by have := hbC.size; simp at this; omega) _
    have HCo : Hid (CoS w1.heap.size (W.heap.size + 3) (.slice sa sts.length sc) sts f.md f.id [] [] [] (w1.alloc (.cells #[.slice sa sts.length sc, .int .i64 (f.md : Nat), .int .i64 f.id, .slice none 0 0, .slice none 0 0, .slice none 0 0] 85))) := CoS.begin (heap_alloc_new w1 _) ((own_low HRow.out (by simp)).alloc _)
    have hg3 : W.heap.size + 3 ≤ w1.heap.size := by have := hbC.size; simp at this; omega
    have hNs : W.heap.size + 3 ≤ (w1.alloc (.cells #[.slice sa sts.length sc, .int .i64 (f.md : Nat), .int .i64 f.id, .slice none 0 0, .slice none 0 0, .slice none 0 0] 85)).heap.size := by simp; omega
    clear hbC HRow HA HZ HB3 HB4 HX3 HX4 HXn HZ4 b0 HN HCol
    generalize (w1.alloc (.cells #[.slice sa sts.length sc, .int .i64 (f.md : Nat), .int .i64 f.id, .slice none 0 0, .slice none 0 0, .slice none 0 0] 85)) = W' at *
    generalize w1.heap.size = g at *
    go_wp2
    go_loopw [23] (fun x wr => ∃ i : Nat, i ≤ ds.length ∧ x = .int .i64 i ∧ Hid (CoS g (W.heap.size + 3) (.slice sa sts.length sc) sts f.md f.id (eR (ents f.md sts (ds.take i))) (eD (ents f.md sts (ds.take i))) (eV (ents f.md sts (ds.take i))) wr) ∧ Hid (DFr g (W.heap.size + 3) W' wr)) (fun x _ => ds.length - (intOf x).toNat)
    case atStart => exact ⟨0, Nat.zero_le _, rfl, (by show CoS _ _ _ _ _ _ _ _ _ _; simpa [ents, eR, eD, eV] using HCo.out), DFr.refl _ _ _⟩
    case round =>
      obtain ⟨i, hi, rfl, HC, HD⟩ := hrel
      have hds' := HD.out.size
      have hbl : Below W.heap.size W wr := HBl.out.trans (HD.out.below (by omega) (by omega) (by omega))
      by_cases hlt : i < ds.length
      · obtain ⟨b', o', al1, cl1, af1, cf1, ea, ⟨e0, e1, e2, e3, e4, e5⟩, hd1, hd2⟩ := (HLd.out.keep hbl).at_ i hlt
        subst ea
        have hb2 : Below wr.heap.size wr (wr.alloc (.cells #[.bool ds[i].no, .int .i64 ds[i].v.k, .int .i64 ds[i].v.n, .string ds[i].v.s, .slice al1 ds[i].l.length cl1, .slice af1 ds[i].f.length cf1] 58)) := (Below.refl _ _).alloc (Nat.le_refl _) _
        have hst := ents_step f.md sts ds i hlt
        have hle := ents_le f.md sts ds (i + 1)
        rw [hst, List.length_append] at hle
        have hmn := HMany.out
        have HCk : Hid _ := down_all g (W.heap.size + 3) W.heap.size (by omega) (by omega) (.slice sa sts.length sc) sts f.md f.id HSl.out sts 0 rfl (Nat.zero_le _) ds[i] (HFit.out i hlt).1 (HFit.out i hlt).2 _ _ _ 0 al1 cl1 af1 cf1 (wr.alloc (.cells #[.bool ds[i].no, .int .i64 ds[i].v.k, .int .i64 ds[i].v.n, .string ds[i].v.s, .slice al1 ds[i].l.length cl1, .slice af1 ds[i].f.length cf1] 58)) (HC.out.stay hb2) (by simp; omega) (by rw [eR_len]; omega) (by rw [eR_len, eD_len]) (by rw [eR_len]; exact eV_len _) (hd1.keep hb2) (hd2.keep hb2)
        have HB2 : Hid _ := hb2
        have HSt : Hid _ := hst
        clear hb2 hst hle hmn hd1 hd2 hbl
        go_wp2_with fail
        refine Calls.mono HCk.out ?_
        rintro e w3 ⟨rfl, hC3, hD3⟩
        have HC3 : Hid (CoS g (W.heap.size + 3) (.slice sa sts.length sc) sts f.md f.id (eR (ents f.md sts (ds.take (i + 1)))) (eD (ents f.md sts (ds.take (i + 1)))) (eV (ents f.md sts (ds.take (i + 1)))) w3) := (by rw [HSt.out, eR_app, eD_app, eV_app]; exact hC3)
        have HD3 : Hid (DFr g (W.heap.size + 3) W' w3) := (HD.out.trans (DFr.alloc g _ wr _)).trans hD3
        clear hC3 hD3 e0 e1 e2 e3 e4 e5
        go_wp2
        go_roundw
        case rel => exact ⟨i + 1, by omega, by go_num, HC3, HD3⟩
        case measure => simp [intOf]; omega
      · obtain rfl : i = ds.length := by omega
        obtain ⟨rv, dv, vv, hI⟩ := HC.out
        rw [List.take_length] at hI
        have HI : Hid (CoI g (W.heap.size + 3) (.slice sa sts.length sc) sts f.md f.id rv (eR (ents f.md sts ds)) dv (eD (ents f.md sts ds)) vv (eV (ents f.md sts ds)) wr) := hI
        obtain ⟨ra, rc, rfl⟩ := own_sl hI.rrow
        obtain ⟨qa, qc, rfl⟩ := own_sl hI.drow
        obtain ⟨va, vc, rfl⟩ := own_sl hI.vrow
        obtain ⟨c0, c1, c2, c3, c4, c5⟩ := row_six hI.cell
        have HR2 : Hid (wr.heap[W.heap.size + 1 + 1]? = some (.cells #[.int .i64 0, .slice none 0 0, .slice none 0 0, .slice none 0 0] 42 (0, 0))) := HD.out.box HRes.out (by omega) (by decide)
        obtain ⟨p0, p1, p2, p3⟩ := row_four HR2.out
        obtain ⟨f0, f1, f2, f3⟩ := row_fourF HR2.out
        have HB3 : Hid (Below W.heap.size W wr) := hbl
        clear hI hbl
        go_wp2
        have ON := set_four HR2.out (.int .i64 f.id) (.slice ra (eR (ents f.md sts ds)).length rc) (.slice qa (eD (ents f.md sts ds)).length qc) (.slice va (eV (ents f.md sts ds)).length vc)
        obtain ⟨k0, k1, k2, k3⟩ := row_four ON.new
        refine bodyPost_ret (results_ct rfl _ _ ⟨W.heap.size + 1 + 1, 0, none⟩ (.agg #[.int .i64 f.id, .slice ra (eR (ents f.md sts ds)).length rc, .slice qa (eD (ents f.md sts ds)).length qc, .slice va (eV (ents f.md sts ds)).length vc]) rfl (loadCol k0 k1 k2 k3)) rfl ?_
        have hrow : ∀ {e s n : Nat} {v : Value} {xs : List Value}, wr.ownsRow (W.heap.size + 3) e s v n xs → _ := fun {e s n v xs} (h : wr.ownsRow (W.heap.size + 3) e s v n xs) => own_same (own_low h (show W.heap.size ≤ W.heap.size + 3 by omega)) fun k hk => ON.old k (by have := (own_block h hk).1; omega)
        exact ⟨⟨_, _, _, rfl, hrow HI.out.rrow, hrow HI.out.drow, hrow HI.out.vrow⟩, ⟨ON.os.trans HB3.out.os, ON.tape.trans HB3.out.tape, ON.output.trans HB3.out.output, by rw [ON.size]; exact HB3.out.size, fun k hk => by rw [ON.old k (by omega), HB3.out.block k hk]⟩⟩
  · have ON := set_six HG.out (.slice sa sts.length sc) (.int .i64 (f.md : Nat)) (.int .i64 f.id) (.slice none 0 0) (.slice none 0 0) (.slice none 0 0)
    have HRes : Hid (((((((w1.setCell ⟨W.heap.size + 1 + 1 + 1, 0, none⟩ (.slice sa sts.length sc)).setCell ⟨W.heap.size + 1 + 1 + 1, 1, none⟩ (.int .i64 (f.md : Nat))).setCell ⟨W.heap.size + 1 + 1 + 1, 2, none⟩ (.int .i64 f.id)).setCell ⟨W.heap.size + 1 + 1 + 1, 3, none⟩ (.slice none 0 0)).setCell ⟨W.heap.size + 1 + 1 + 1, 4, none⟩ (.slice none 0 0)).setCell ⟨W.heap.size + 1 + 1 + 1, 5, none⟩ (.slice none 0 0)).heap[W.heap.size + 1 + 1]? = some (.cells #[.int .i64 0, .slice none 0 0, .slice none 0 0, .slice none 0 0] 42 (0, 0))) := (ON.old _ (by omega)).trans (blk_keep hbC HCol.out)
    have hbA : Below W.heap.size W w1 := HB3.out.trans (hbC.mono (by simp; omega))
    have HBl : Hid (Below W.heap.size W ((((((w1.setCell ⟨W.heap.size + 1 + 1 + 1, 0, none⟩ (.slice sa sts.length sc)).setCell ⟨W.heap.size + 1 + 1 + 1, 1, none⟩ (.int .i64 (f.md : Nat))).setCell ⟨W.heap.size + 1 + 1 + 1, 2, none⟩ (.int .i64 f.id)).setCell ⟨W.heap.size + 1 + 1 + 1, 3, none⟩ (.slice none 0 0)).setCell ⟨W.heap.size + 1 + 1 + 1, 4, none⟩ (.slice none 0 0)).setCell ⟨W.heap.size + 1 + 1 + 1, 5, none⟩ (.slice none 0 0))) := ⟨ON.os.trans hbA.os, ON.tape.trans hbA.tape, ON.output.trans hbA.output, by rw [ON.size]; exact hbA.size, fun k hk => by rw [ON.old k (by omega), hbA.block k hk]⟩
    have HCo : Hid (CoS (W.heap.size + 1 + 1 + 1) (W.heap.size + 3) (.slice sa sts.length sc) sts f.md f.id [] [] [] ((((((w1.setCell ⟨W.heap.size + 1 + 1 + 1, 0, none⟩ (.slice sa sts.length sc)).setCell ⟨W.heap.size + 1 + 1 + 1, 1, none⟩ (.int .i64 (f.md : Nat))).setCell ⟨W.heap.size + 1 + 1 + 1, 2, none⟩ (.int .i64 f.id)).setCell ⟨W.heap.size + 1 + 1 + 1, 3, none⟩ (.slice none 0 0)).setCell ⟨W.heap.size + 1 + 1 + 1, 4, none⟩ (.slice none 0 0)).setCell ⟨W.heap.size + 1 + 1 + 1, 5, none⟩ (.slice none 0 0))) := CoS.begin ON.new (own_same (own_low HRow.out (by simp)) fun k hk => ON.old k (by have := (own_block HRow.out hk).1; simp at this; omega))
    have hg3 : W.heap.size + 3 ≤ W.heap.size + 1 + 1 + 1 := by omega
    have hNs : W.heap.size + 3 ≤ ((((((w1.setCell ⟨W.heap.size + 1 + 1 + 1, 0, none⟩ (.slice sa sts.length sc)).setCell ⟨W.heap.size + 1 + 1 + 1, 1, none⟩ (.int .i64 (f.md : Nat))).setCell ⟨W.heap.size + 1 + 1 + 1, 2, none⟩ (.int .i64 f.id)).setCell ⟨W.heap.size + 1 + 1 + 1, 3, none⟩ (.slice none 0 0)).setCell ⟨W.heap.size + 1 + 1 + 1, 4, none⟩ (.slice none 0 0)).setCell ⟨W.heap.size + 1 + 1 + 1, 5, none⟩ (.slice none 0 0)).heap.size := by have := hbC.size; rw [ON.size]; simp at this; omega
    clear ON hbA hbC HRow HA HZ HB3 HB4 HX3 HX4 HXn HZ4 b0 HN HCol HG z0 z1 z2 z3 z4 z5 y0 y1 y2 y3 y4 y5
    generalize ((((((w1.setCell ⟨W.heap.size + 1 + 1 + 1, 0, none⟩ (.slice sa sts.length sc)).setCell ⟨W.heap.size + 1 + 1 + 1, 1, none⟩ (.int .i64 (f.md : Nat))).setCell ⟨W.heap.size + 1 + 1 + 1, 2, none⟩ (.int .i64 f.id)).setCell ⟨W.heap.size + 1 + 1 + 1, 3, none⟩ (.slice none 0 0)).setCell ⟨W.heap.size + 1 + 1 + 1, 4, none⟩ (.slice none 0 0)).setCell ⟨W.heap.size + 1 + 1 + 1, 5, none⟩ (.slice none 0 0)) = W' at *
    go_wp2
    go_loopw [23] (fun x wr => ∃ i : Nat, i ≤ ds.length ∧ x = .int .i64 i ∧ Hid (CoS (W.heap.size + 1 + 1 + 1) (W.heap.size + 3) (.slice sa sts.length sc) sts f.md f.id (eR (ents f.md sts (ds.take i))) (eD (ents f.md sts (ds.take i))) (eV (ents f.md sts (ds.take i))) wr) ∧ Hid (DFr (W.heap.size + 1 + 1 + 1) (W.heap.size + 3) W' wr)) (fun x _ => ds.length - (intOf x).toNat)
    case atStart => exact ⟨0, Nat.zero_le _, rfl, (by show CoS _ _ _ _ _ _ _ _ _ _; simpa [ents, eR, eD, eV] using HCo.out), DFr.refl _ _ _⟩
    case round =>
      obtain ⟨i, hi, rfl, HC, HD⟩ := hrel
      have hds' := HD.out.size
      have hbl : Below W.heap.size W wr := HBl.out.trans (HD.out.below (by omega) (by omega) (by omega))
      by_cases hlt : i < ds.length
      · obtain ⟨b', o', al1, cl1, af1, cf1, ea, ⟨e0, e1, e2, e3, e4, e5⟩, hd1, hd2⟩ := (HLd.out.keep hbl).at_ i hlt
        subst ea
        have hb2 : Below wr.heap.size wr (wr.alloc (.cells #[.bool ds[i].no, .int .i64 ds[i].v.k, .int .i64 ds[i].v.n, .string ds[i].v.s, .slice al1 ds[i].l.length cl1, .slice af1 ds[i].f.length cf1] 58)) := (Below.refl _ _).alloc (Nat.le_refl _) _
        have hst := ents_step f.md sts ds i hlt
        have hle := ents_le f.md sts ds (i + 1)
        rw [hst, List.length_append] at hle
        have hmn := HMany.out
        have HCk : Hid _ := down_all (W.heap.size + 1 + 1 + 1) (W.heap.size + 3) W.heap.size (by omega) (by omega) (.slice sa sts.length sc) sts f.md f.id HSl.out sts 0 rfl (Nat.zero_le _) ds[i] (HFit.out i hlt).1 (HFit.out i hlt).2 _ _ _ 0 al1 cl1 af1 cf1 (wr.alloc (.cells #[.bool ds[i].no, .int .i64 ds[i].v.k, .int .i64 ds[i].v.n, .string ds[i].v.s, .slice al1 ds[i].l.length cl1, .slice af1 ds[i].f.length cf1] 58)) (HC.out.stay hb2) (by simp; omega) (by rw [eR_len]; omega) (by rw [eR_len, eD_len]) (by rw [eR_len]; exact eV_len _) (hd1.keep hb2) (hd2.keep hb2)
        have HB2 : Hid _ := hb2
        have HSt : Hid _ := hst
        clear hb2 hst hle hmn hd1 hd2 hbl
        go_wp2_with fail
        refine Calls.mono HCk.out ?_
        rintro e w3 ⟨rfl, hC3, hD3⟩
        have HC3 : Hid (CoS (W.heap.size + 1 + 1 + 1) (W.heap.size + 3) (.slice sa sts.length sc) sts f.md f.id (eR (ents f.md sts (ds.take (i + 1)))) (eD (ents f.md sts (ds.take (i + 1)))) (eV (ents f.md sts (ds.take (i + 1)))) w3) := (by rw [HSt.out, eR_app, eD_app, eV_app]; exact hC3)
        have HD3 : Hid (DFr (W.heap.size + 1 + 1 + 1) (W.heap.size + 3) W' w3) := (HD.out.trans (DFr.alloc (W.heap.size + 1 + 1 + 1) _ wr _)).trans hD3
        clear hC3 hD3 e0 e1 e2 e3 e4 e5
        go_wp2
        go_roundw
        case rel => exact ⟨i + 1, by omega, by go_num, HC3, HD3⟩
        case measure => simp [intOf]; omega
      · obtain rfl : i = ds.length := by omega
        obtain ⟨rv, dv, vv, hI⟩ := HC.out
        rw [List.take_length] at hI
        have HI : Hid (CoI (W.heap.size + 1 + 1 + 1) (W.heap.size + 3) (.slice sa sts.length sc) sts f.md f.id rv (eR (ents f.md sts ds)) dv (eD (ents f.md sts ds)) vv (eV (ents f.md sts ds)) wr) := hI
        obtain ⟨ra, rc, rfl⟩ := own_sl hI.rrow
        obtain ⟨qa, qc, rfl⟩ := own_sl hI.drow
        obtain ⟨va, vc, rfl⟩ := own_sl hI.vrow
        obtain ⟨c0, c1, c2, c3, c4, c5⟩ := row_six hI.cell
        have HR2 : Hid (wr.heap[W.heap.size + 1 + 1]? = some (.cells #[.int .i64 0, .slice none 0 0, .slice none 0 0, .slice none 0 0] 42 (0, 0))) := HD.out.box HRes.out (by omega) (by decide)
        obtain ⟨p0, p1, p2, p3⟩ := row_four HR2.out
        obtain ⟨f0, f1, f2, f3⟩ := row_fourF HR2.out
        have HB3 : Hid (Below W.heap.size W wr) := hbl
        clear hI hbl
        go_wp2
        have ON := set_four HR2.out (.int .i64 f.id) (.slice ra (eR (ents f.md sts ds)).length rc) (.slice qa (eD (ents f.md sts ds)).length qc) (.slice va (eV (ents f.md sts ds)).length vc)
        obtain ⟨k0, k1, k2, k3⟩ := row_four ON.new
        refine bodyPost_ret (results_ct rfl _ _ ⟨W.heap.size + 1 + 1, 0, none⟩ (.agg #[.int .i64 f.id, .slice ra (eR (ents f.md sts ds)).length rc, .slice qa (eD (ents f.md sts ds)).length qc, .slice va (eV (ents f.md sts ds)).length vc]) rfl (loadCol k0 k1 k2 k3)) rfl ?_
        have hrow : ∀ {e s n : Nat} {v : Value} {xs : List Value}, wr.ownsRow (W.heap.size + 3) e s v n xs → _ := fun {e s n v xs} (h : wr.ownsRow (W.heap.size + 3) e s v n xs) => own_same (own_low h (show W.heap.size ≤ W.heap.size + 3 by omega)) fun k hk => ON.old k (by have := (own_block h hk).1; omega)
        exact ⟨⟨_, _, _, rfl, hrow HI.out.rrow, hrow HI.out.drow, hrow HI.out.vrow⟩, ⟨ON.os.trans HB3.out.os, ON.tape.trans HB3.out.tape, ON.output.trans HB3.out.output, by rw [ON.size]; exact HB3.out.size, fun k hk => by rw [ON.old k (by omega), HB3.out.block k hk]⟩⟩
end Go.Proofs.YtbicfjimlpdnkaaGreatDoor

namespace Go.Proofs.YtbicfjimlpdnkaaGreatDoor
open Go.RowKit
theorem Tryz.infoC : (Tryz.prog.info? 42).map (fun i => (i.zero, i.size, i.bytes)) = some (some (.agg #[.int .i64 0, .slice none 0 0, .slice none 0 0, .slice none 0 0]), 4, 80) := by kernel_rfl
/-- A column: its number, levels and values. -/
structure Col where
  id : Int
  reps : List Int
  defs : List Int
  vals : List Vl
def colC (c : Col) (q : Value × Value × Value) : List Value := [.int .i64 c.id, q.1, q.2.1, q.2.2]
/-- Where a column's rows lie. -/
structure ColQ (W : World) (N : Nat) (c : Col) (q : Value × Value × Value) : Prop where
  r : W.ownsRow N 3 1 q.1 c.reps.length (i64s c.reps)
  d : W.ownsRow N 3 1 q.2.1 c.defs.length (i64s c.defs)
  v : W.ownsRow N 56 3 q.2.2 c.vals.length (vcells c.vals)
/-- Columns that lie in a row of the call's own. -/
def ColR (W : World) (N : Nat) (ov : Value) (cs : List Col) : Prop :=
  ∃ qs : List (Value × Value × Value), qs.length = cs.length ∧ W.ownsRow N 42 4 ov cs.length ((List.zipWith colC cs qs).flatten) ∧ ∀ j (h : j < cs.length) (h' : j < qs.length), ColQ W N cs[j] qs[j]
theorem ColQ.stay {W w' : World} {N : Nat} {c : Col} {q : Value × Value × Value} (h : ColQ W N c q) (hs : ∀ k cs e, W.heap[k]? = some (.cells cs e (0, 0)) → (e = 3 ∨ e = 56) → N ≤ k → w'.heap[k]? = W.heap[k]?) : ColQ w' N c q := by
  refine ⟨own_same h.r fun k hk => ?_, own_same h.d fun k hk => ?_, own_same h.v fun k hk => ?_⟩
  · obtain ⟨q1, _, cs, q3⟩ := own_block h.r hk; exact hs k cs _ q3 (.inl rfl) q1
  · obtain ⟨q1, _, cs, q3⟩ := own_block h.d hk; exact hs k cs _ q3 (.inl rfl) q1
  · obtain ⟨q1, _, cs, q3⟩ := own_block h.v hk; exact hs k cs _ q3 (.inr rfl) q1
theorem ColQ.down {W : World} {N N' : Nat} {c : Col} {q : Value × Value × Value} (h : ColQ W N c q) (hN : N' ≤ N) : ColQ W N' c q := ⟨own_low h.r hN, own_low h.d hN, own_low h.v hN⟩
theorem ColR.down {W : World} {N N' : Nat} {ov : Value} {cs : List Col} (h : ColR W N ov cs) (hN : N' ≤ N) : ColR W N' ov cs := by
  obtain ⟨qs, h1, h2, h3⟩ := h
  exact ⟨qs, h1, own_low h2 hN, fun j hj hj' => (h3 j hj hj').down hN⟩
theorem ColR.keep {W w' : World} {N : Nat} {ov : Value} {cs : List Col} (h : ColR W N ov cs) (hb : Below W.heap.size W w') : ColR w' N ov cs := by
  obtain ⟨qs, h1, h2, h3⟩ := h
  exact ⟨qs, h1, ow_kept h2 hb, fun j hj hj' => (h3 j hj hj').stay fun k cs e hk _ _ => hb.block k (lt_of_block hk)⟩
theorem col_len (cs : List Col) (qs : List (Value × Value × Value)) (h : qs.length = cs.length) : (List.zipWith colC cs qs).flatten.length = cs.length * 4 := by
  have h4 : ∀ (ls : List (List Value)), (∀ l ∈ ls, l.length = 4) → ls.flatten.length = ls.length * 4 := by
    intro ls
    induction ls with
    | nil => intro _; rfl
    | cons l ls ih =>
      intro hh
      rw [List.flatten_cons, List.length_append, hh l (by simp), ih (fun x hx => hh x (by simp [hx])), List.length_cons]
      omega
  rw [h4 _ (fun x hx => ?_)]
  · simp [h]
  · obtain ⟨i, hi, rfl⟩ := List.getElem_of_mem hx
    simp [colC]
theorem ColR.push {W w2 : World} {N : Nat} {ov ov2 : Value} {cs : List Col} {c : Col} {q : Value × Value × Value} {qs : List (Value × Value × Value)} {ob : Obj} (h1 : qs.length = cs.length) (h3 : ∀ j (h : j < cs.length) (h' : j < qs.length), ColQ W N cs[j] qs[j]) (h2 : W.ownsRow N 42 4 ov cs.length ((List.zipWith colC cs qs).flatten)) (hq : ColQ W N c q)
    (hown : w2.ownsRow N 42 4 ov2 (cs.length + 1) ((List.zipWith colC cs qs).flatten ++ colC c q)) (hg : (W.alloc ob).grownBy w2 ov.ownBlock) : ColR w2 N ov2 (cs ++ [c]) := by
  have hk : ∀ k cs' e, W.heap[k]? = some (.cells cs' e (0, 0)) → (e = 3 ∨ e = 56) → N ≤ k → w2.heap[k]? = W.heap[k]? := fun k cs' e hk he _ => by
    have hl := lt_of_block hk
    rw [hg.block k (by simp; omega) (own_type h2 hk (by rcases he with rfl | rfl <;> decide)), heap_alloc_old W ob hl]
  refine ⟨qs ++ [q], by simp [h1], ?_, fun j hj hj' => ?_⟩
  · rw [List.zipWith_append h1.symm, List.flatten_append]
    simpa using hown
  · by_cases hl : j < cs.length
    · rw [List.getElem_append_left (by omega), List.getElem_append_left (by omega)]
      exact (h3 j hl (by omega)).stay hk
    · have hj2 : j = cs.length := by simp at hj; omega
      subst hj2
      rw [List.getElem_append_right (by omega), List.getElem_append_right (by omega)]
      simp only [h1, Nat.sub_self, List.getElem_cons_zero]
      exact hq.stay hk
/-- A leaf at its place in the row. -/
theorem LvR.at_ {W : World} {N : Nat} {lv : Value} {ls : List Lf} (h : LvR W N lv ls) (j : Nat) (hj : j < ls.length) : ∃ lb cap pa pc, lv = .slice (some ⟨lb, 0, none⟩) ls.length cap ∧ (W.cell? ⟨lb, j * 5, none⟩ = some (.int .i64 ls[j].id) ∧ W.cell? ⟨lb, j * 5 + 1, none⟩ = some (.int .i64 ls[j].kind) ∧ W.cell? ⟨lb, j * 5 + 2, none⟩ = some (.int .i64 (ls[j].mr : Nat)) ∧ W.cell? ⟨lb, j * 5 + 3, none⟩ = some (.int .i64 (ls[j].md : Nat)) ∧ W.cell? ⟨lb, j * 5 + 4, none⟩ = some (.slice pa ls[j].path.length pc)) ∧ Lies W pa (i64s ls[j].path) := by
  obtain ⟨pvs, h1, h2, h3⟩ := h
  have hjp : j < pvs.length := by omega
  have hz : j < (List.zipWith lfC ls pvs).length := by simp; omega
  have h5 : ∀ x ∈ List.zipWith lfC ls pvs, x.length = 5 := fun x hx => by
    obtain ⟨i, hi, rfl⟩ := List.getElem_of_mem hx
    simp [lfC]
  have hrow := h3 j hj hjp
  rcases h2.2 with ⟨_, h0⟩ | ⟨g, cap, cur, rfl, _⟩
  · omega
  · have hc : ∀ k u, (lfC ls[j] pvs[j])[k]? = some u → k < 5 → W.cell? ⟨g, j * 5 + k, none⟩ = some u := fun k u hu hk => by
      have h6 := h2.cells (g := g) rfl (j * 5 + k) u (by
        rw [flat5 _ h5 j k hk, List.getElem?_eq_getElem hz, List.getElem_zipWith]
        exact hu)
      rw [addr_plus, Nat.zero_add] at h6
      exact h6
    obtain ⟨pa, pc, hpv⟩ := own_sl hrow
    rw [hpv] at hc hrow
    refine ⟨g, cap, pa, pc, rfl, ⟨hc 0 _ rfl (by omega), hc 1 _ rfl (by omega), hc 2 _ rfl (by omega), hc 3 _ rfl (by omega), hc 4 _ rfl (by omega)⟩, fun k hk => ?_⟩
    rcases hrow.2 with ⟨_, h0⟩ | ⟨g', cap', cur', hv, rest⟩
    · simp [i64s] at hk; omega
    · injection hv with hv _ _
      subst hv
      have h7 := hrow.cells (g := g') rfl k (i64s ls[j].path)[k] (List.getElem?_eq_getElem hk)
      rw [addr_plus, Nat.zero_add] at h7
      exact ⟨g', 0, rfl, by simpa using h7⟩
/-- The column of a leaf. -/
def colOf (f : Lf) (sts : List Stp) (ds : List Dt) : Col := ⟨f.id, eR (ents f.md sts ds), eD (ents f.md sts ds), eV (ents f.md sts ds)⟩
set_option maxRecDepth 100000 in
set_option maxHeartbeats 3200000 in
/-- Shred of right records. -/
theorem shred_right (eb es ek en : TypeId × Value) (t : Tr) (n : Nat) (hd : t.Dp n) (hn : n ≤ 1100000) (hs : t.Sm) (hv : vldN t = 0) (ls : List Lf) (hls : lvsT t = ls) (hln : ls.length ≤ 1000) (SF : Nat → List Stp) (ds : List Dt) (hds : ds.length ≤ 100) (hck : ∀ j (h : j < ds.length), ds[j].Sm ∧ chk false t ds[j] = 0)
    (hst : ∀ j (h : j < ls.length), ls[j].path.length ≤ 1000 ∧ StPath t ls[j].path 0 0 (SF j) ∧ (∀ i (h : i < ds.length), FitS (SF j) ds[i]) ∧ (ents ls[j].md (SF j) ds).length ≤ 20000)
    (a : Option Addr) (c : Nat) (hcap : t.sub.length ≤ c) (da : Option Addr) (dc : Nat) (W : World) (he : EC W eb es ek) (hen : W.cell? ⟨2, 0, none⟩ = some (.iface en.1 en.2)) (hl : LiesN W (fun b => b < W.heap.size) a t.sub) (hld : LiesD W (fun b => b < W.heap.size) da ds) :
    Calls Tryz.prog 7 #[nodeV t a c, .slice da ds.length dc] W fun e w' => (∃ ov, e = .returned (.tuple #[ov, .nilIface]) ∧ ColR w' W.heap.size ov (ls.mapIdx fun j f => colOf f (SF j) ds)) ∧ Below W.heap.size W w' := by
  obtain ⟨iv, hvi, hv0, hv1, hv2⟩ := info_parts Tryz.infoC
  have hb : Below W.heap.size W (W.alloc (.cells #[.int .i64 t.id, .string t.nm, .int .i64 t.rep, .int .i64 t.kind, .slice a t.sub.length c] 24)) := (Below.refl _ _).alloc (Nat.le_refl _) _
  have HX : Hid ((W.alloc (.cells #[.int .i64 t.id, .string t.nm, .int .i64 t.rep, .int .i64 t.kind, .slice a t.sub.length c] 24)).heap[W.heap.size]? = some (.cells #[.int .i64 t.id, .string t.nm, .int .i64 t.rep, .int .i64 t.kind, .slice a t.sub.length c] 24 (0, 0))) := heap_alloc_new W _
  have HLv := leaves_right t n hd hn hs a c _ (W.alloc (.cells #[.int .i64 t.id, .string t.nm, .int .i64 t.rep, .int .i64 t.kind, .slice a t.sub.length c] 24)) (hl.keep hb) hcap eb es en (he.keep hb).b (he.keep hb).s ((hb.cell (World.block_lt_of_cell? W _ hen)).trans hen) hv
  rw [hls] at HLv
  have HLv : Hid _ := HLv
  have HB : Hid (Below W.heap.size W (W.alloc (.cells #[.int .i64 t.id, .string t.nm, .int .i64 t.rep, .int .i64 t.kind, .slice a t.sub.length c] 24))) := hb
  have HEr : Hid (EC W eb es ek) := he
  have HEn : Hid (W.cell? ⟨2, 0, none⟩ = some (.iface en.1 en.2)) := hen
  have HL : Hid (LiesN W (fun b => b < W.heap.size) a t.sub) := hl
  have HLd : Hid (LiesD W (fun b => b < W.heap.size) da ds) := hld
  have HCk : Hid (∀ j (h : j < ds.length), ds[j].Sm ∧ chk false t ds[j] = 0) := hck
  have HSt : Hid (∀ j (h : j < ls.length), ls[j].path.length ≤ 1000 ∧ StPath t ls[j].path 0 0 (SF j) ∧ (∀ i (h : i < ds.length), FitS (SF j) ds[i]) ∧ (ents ls[j].md (SF j) ds).length ≤ 20000) := hst
  have HD : Hid (t.Dp n) := hd
  have HSm : Hid t.Sm := hs
  have HV : Hid (vldN t = 0) := hv
  have q : decide ((100 : Int) < (ds.length : Int)) = false := by simp; omega
  clear hl hld hck hst hd hs hv he hen hb hls
  unfold nodeV
  go_enter Tryz.func7, Tryz.ntmps7
  go_wp2_with fail
  refine Calls.mono HLv.out ?_
  rintro e w1 ⟨⟨lv, rfl, hlv⟩, hb1⟩
  have HB1 : Hid (Below W.heap.size W w1) := HB.out.trans (hb1.mono HB.out.size)
  have HX1 : Hid (w1.heap[W.heap.size]? = some (.cells #[.int .i64 t.id, .string t.nm, .int .i64 t.rep, .int .i64 t.kind, .slice a t.sub.length c] 24 (0, 0))) := blk_keep hb1 HX.out
  have HLr : Hid (LvR w1 W.heap.size lv ls) := hlv.down (by simp)
  obtain ⟨la, lc, rfl⟩ : ∃ la lc, lv = .slice la ls.length lc := (by obtain ⟨pvs, _, h2, _⟩ := hlv; exact own_sl h2)
  clear hb1 hlv HLv
  go_wp2
  clear q
  generalize (decide ((100 : Int) < (ds.length : Int))) = bq
  go_loopw [30] (fun x wr => ∃ i : Nat, i ≤ ds.length ∧ x = .int .i64 i ∧ Hid (Below w1.heap.size w1 wr)) (fun x _ => ds.length - (intOf x).toNat)
  case atStart => exact ⟨0, Nat.zero_le _, rfl, Below.refl _ _⟩
  case round =>
    obtain ⟨i, hi, rfl, HBr⟩ := hrel
    have hs1 := HB1.out.size
    have hbr : Below W.heap.size W wr := HB1.out.trans (HBr.out.mono hs1)
    by_cases hlt : i < ds.length
    · obtain ⟨b', o', al1, cl1, af1, cf1, ea, ⟨e0, e1, e2, e3, e4, e5⟩, hd1, hd2⟩ := (HLd.out.keep hbr).at_ i hlt
      subst ea
      have hb2 : Below wr.heap.size wr (wr.alloc (.cells #[.bool ds[i].no, .int .i64 ds[i].v.k, .int .i64 ds[i].v.n, .string ds[i].v.s, .slice al1 ds[i].l.length cl1, .slice af1 ds[i].f.length cf1] 58)) := (Below.refl _ _).alloc (Nat.le_refl _) _
      have HC := checkD_right eb es ek en t ds[i] n HD.out hn HSm.out (HCk.out i hlt).1 HV.out _ _ a c hcap al1 cl1 af1 cf1 (wr.alloc (.cells #[.bool ds[i].no, .int .i64 ds[i].v.k, .int .i64 ds[i].v.n, .string ds[i].v.s, .slice al1 ds[i].l.length cl1, .slice af1 ds[i].f.length cf1] 58)) ((HEr.out.keep hbr).keep hb2) ((hb2.cell (World.block_lt_of_cell? _ _ ((hbr.cell (World.block_lt_of_cell? W _ HEn.out)).trans HEn.out))).trans ((hbr.cell (World.block_lt_of_cell? W _ HEn.out)).trans HEn.out)) ((HL.out.keep hbr).keep hb2) (hd1.keep hb2) (hd2.keep hb2)
      rw [(HCk.out i hlt).2] at HC
      have HC : Hid _ := HC
      have HB2 : Hid _ := hb2
      obtain ⟨⟨p0, p1, p2, p3, p4⟩, _⟩ := row_five (blk_alloc (o' := (.cells #[.bool ds[i].no, .int .i64 ds[i].v.k, .int .i64 ds[i].v.n, .string ds[i].v.s, .slice al1 ds[i].l.length cl1, .slice af1 ds[i].f.length cf1] 58)) (blk_keep HBr.out HX1.out))
      clear hb2 hd1 hd2 hbr
      go_wp2_with fail
      refine Calls.mono HC.out ?_
      rintro e w3 ⟨rfl, hb3⟩
      have HB3 : Hid (Below w1.heap.size w1 w3) := (HBr.out.trans (HB2.out.mono HBr.out.size)).trans (hb3.mono (by have := HBr.out.size; simp; omega))
      clear hb3 p0 p1 p2 p3 p4 e0 e1 e2 e3 e4 e5
      rw [show erV eb es ek 0 = .nilIface from rfl]
      go_wp2
      go_roundw
      case rel => exact ⟨i + 1, by omega, by go_num, HB3⟩
      case measure => simp [intOf]; omega
    · obtain rfl : i = ds.length := by omega
      clear hbr
      have hsr := HBr.out.size
      have HB4 : Hid (Below W.heap.size W wr) := HB1.out.trans (HBr.out.mono hs1)
      have HX4 : Hid (wr.heap[W.heap.size]? = some (.cells #[.int .i64 t.id, .string t.nm, .int .i64 t.rep, .int .i64 t.kind, .slice a t.sub.length c] 24 (0, 0))) := blk_keep HBr.out HX1.out
      have HL4 : Hid (LvR wr W.heap.size (.slice la ls.length lc) ls) := HLr.out.stay fun k cs e hk _ _ => HBr.out.block k (lt_of_block hk)
      obtain ⟨w0, hw0⟩ : ∃ w0, w0 = wr := ⟨_, rfl⟩
      subst hw0
      go_wp2
      go_loopw [11, 48] (fun ov x wr => ∃ (i : Nat) (cs : List Col), i ≤ ls.length ∧ x = .int .i64 i ∧ Hid (cs = (ls.take i).mapIdx fun j f => colOf f (SF j) ds) ∧ Hid (ColR wr w0.heap.size ov cs) ∧ Hid (Below w0.heap.size w0 wr)) (fun _ x _ => ls.length - (intOf x).toNat)
      case atStart => exact ⟨0, [], Nat.zero_le _, rfl, rfl, ⟨[], rfl, World.ownsRow_nil _ _ _ _, fun j h => absurd h (by simp)⟩, Below.refl _ _⟩
      case round =>
        obtain ⟨i, cs, hi, rfl, HCs, HCr, HBw⟩ := hrel
        have hs4 := HBw.out.size
        have hbw : Below W.heap.size W wr := HB4.out.trans (HBw.out.mono (by omega))
        by_cases hlt : i < ls.length
        · obtain ⟨lb, cap, pa, pc, elv, ⟨g0, g1, g2, g3, g4⟩, hlies⟩ := (HL4.out.stay (w' := wr) fun k cs e hk _ _ => HBw.out.block k (lt_of_block hk)).at_ i hlt
          injection elv with ela _ elc
          subst ela elc
          obtain ⟨qs, hq1, hq2, hq3⟩ := HCr.out
          have hst := HSt.out i hlt
          have hb2 : Below wr.heap.size wr (wr.alloc (.cells #[.int .i64 ls[i].id, .int .i64 ls[i].kind, .int .i64 (ls[i].mr : Nat), .int .i64 (ls[i].md : Nat), .slice pa ls[i].path.length pc] 67)) := (Below.refl _ _).alloc (Nat.le_refl _) _
          have hb2' : Below W.heap.size W (wr.alloc (.cells #[.int .i64 ls[i].id, .int .i64 ls[i].kind, .int .i64 (ls[i].mr : Nat), .int .i64 (ls[i].md : Nat), .slice pa ls[i].path.length pc] 67)) := hbw.trans (hb2.mono (by omega))
          have HC : Hid _ := columnOf_any t HSm.out a c ls[i] hst.1 pa pc (SF i) ds hds da dc (wr.alloc (.cells #[.int .i64 ls[i].id, .int .i64 ls[i].kind, .int .i64 (ls[i].mr : Nat), .int .i64 (ls[i].md : Nat), .slice pa ls[i].path.length pc] 67)) (HL.out.stay (fun b h _ => by simp; omega) (fun b _ h => hb2'.block b h)) (hlies.keep hb2) hst.2.1 (HLd.out.stay (fun b h _ => by simp; omega) (fun b _ h => hb2'.block b h)) (fun j h => ⟨(HCk.out j h).1, hst.2.2.1 j h⟩) hst.2.2.2
          have HB2 : Hid (Below wr.heap.size wr (wr.alloc (.cells #[.int .i64 ls[i].id, .int .i64 ls[i].kind, .int .i64 (ls[i].mr : Nat), .int .i64 (ls[i].md : Nat), .slice pa ls[i].path.length pc] 67))) := hb2
          have HQ1 : Hid (qs.length = cs.length) := hq1
          have HQ2 : Hid (wr.ownsRow w0.heap.size 42 4 u11 cs.length ((List.zipWith colC cs qs).flatten)) := hq2
          have HQ3 : Hid (∀ j (h : j < cs.length) (h' : j < qs.length), ColQ wr w0.heap.size cs[j] qs[j]) := hq3
          have hcl : cs.length = i := by rw [HCs.out]; simp; omega
          have hfl := col_len cs qs hq1
          obtain ⟨⟨p0, p1, p2, p3, p4⟩, _⟩ := row_five (blk_alloc (o' := (.cells #[.int .i64 ls[i].id, .int .i64 ls[i].kind, .int .i64 (ls[i].mr : Nat), .int .i64 (ls[i].md : Nat), .slice pa ls[i].path.length pc] 67)) (blk_keep HBw.out HX4.out))
          clear hst hb2 hb2' hq1 hq2 hq3 hlies hbw
          go_wp2_with fail
          refine Calls.mono HC.out ?_
          rintro e w5 ⟨⟨rv, dv, vv, rfl, hr5, hd5, hv5⟩, hb5⟩
          obtain ⟨ra, rc, rfl⟩ := own_sl hr5
          obtain ⟨qa, qc, rfl⟩ := own_sl hd5
          obtain ⟨va, vc, rfl⟩ := own_sl hv5
          have HB5 : Hid (Below wr.heap.size wr (w5.alloc (.cells #[.int .i64 ls[i].id, .slice ra (eR (ents ls[i].md (SF i) ds)).length rc, .slice qa (eD (ents ls[i].md (SF i) ds)).length qc, .slice va (eV (ents ls[i].md (SF i) ds)).length vc] 42))) := (HB2.out.trans (hb5.mono (by simp))).alloc (by have := hb5.size; simp at this; omega) _
          have HR5 : Hid ((w5.alloc (.cells #[.int .i64 ls[i].id, .slice ra (eR (ents ls[i].md (SF i) ds)).length rc, .slice qa (eD (ents ls[i].md (SF i) ds)).length qc, .slice va (eV (ents ls[i].md (SF i) ds)).length vc] 42)).ownsRow w0.heap.size 42 4 u11 cs.length ((List.zipWith colC cs qs).flatten)) := ow_kept HQ2.out HB5.out
          have HQ5 : Hid (∀ j (h : j < cs.length) (h' : j < qs.length), ColQ (w5.alloc (.cells #[.int .i64 ls[i].id, .slice ra (eR (ents ls[i].md (SF i) ds)).length rc, .slice qa (eD (ents ls[i].md (SF i) ds)).length qc, .slice va (eV (ents ls[i].md (SF i) ds)).length vc] 42)) w0.heap.size cs[j] qs[j]) := fun j h h' => (HQ3.out j h h').stay fun k cs' e hk _ _ => HB5.out.block k (lt_of_block hk)
          have HN5 : Hid (ColQ (w5.alloc (.cells #[.int .i64 ls[i].id, .slice ra (eR (ents ls[i].md (SF i) ds)).length rc, .slice qa (eD (ents ls[i].md (SF i) ds)).length qc, .slice va (eV (ents ls[i].md (SF i) ds)).length vc] 42)) w0.heap.size (colOf ls[i] (SF i) ds) (.slice ra (eR (ents ls[i].md (SF i) ds)).length rc, .slice qa (eD (ents ls[i].md (SF i) ds)).length qc, .slice va (eV (ents ls[i].md (SF i) ds)).length vc)) := ⟨(own_low hr5 (by simp; omega)).alloc _, (own_low hd5 (by simp; omega)).alloc _, (own_low hv5 (by simp; omega)).alloc _⟩
          have hs5 : w0.heap.size ≤ w5.heap.size := by have := hb5.size; simp at this; omega
          clear hr5 hd5 hv5 hb5 p0 p1 p2 p3 p4 g0 g1 g2 g3 g4 HC
          go_wp2_with (at_builtin; refine wpList_append_own _ rfl _ _ 29 rfl w0.heap.size 42 iv (.agg #[.int .i64 0, .slice none 0 0, .slice none 0 0, .slice none 0 0]) 4 80 Tryz.underlying29 hvi hv0 hv1 hv2 rfl (by decide) _ cs.length (List.zipWith colC cs qs).flatten rfl (HR5.out.alloc _) ⟨w5.heap.size + 1, 0, none⟩ 1 1 [.int .i64 ls[i].id, .slice ra (eR (ents ls[i].md (SF i) ds)).length rc, .slice qa (eD (ents ls[i].md (SF i) ds)).length qc, .slice va (eV (ents ls[i].md (SF i) ds)).length vc] rfl rfl (by intro j v hv; have h := four_cells (w := w5.alloc (.cells #[.int .i64 ls[i].id, .slice ra (eR (ents ls[i].md (SF i) ds)).length rc, .slice qa (eD (ents ls[i].md (SF i) ds)).length qc, .slice va (eV (ents ls[i].md (SF i) ds)).length vc] 42)) (T := 42) j v hv; simpa using h) (by intro u hu; simp at hu; rcases hu with rfl | rfl | rfl | rfl <;> rfl) (by unfold maxLen; omega) (by omega) (by simp; omega) ?_; intro ov2 w6 hown6 hgrow6 _)
          have HCr6 : Hid (ColR w6 w0.heap.size ov2 (cs ++ [colOf ls[i] (SF i) ds])) := ColR.push HQ1.out HQ5.out HR5.out HN5.out (by simpa [colC, colOf] using hown6) hgrow6
          have HB6 : Hid (Below w0.heap.size w0 w6) := (by
            exact below_own ((HBw.out.trans (HB5.out.mono hs4)).alloc (by simp; omega) _) (Nat.le_refl _) (HR5.out.alloc _) hgrow6)
          have HCs6 : Hid (cs ++ [colOf ls[i] (SF i) ds] = (ls.take (i + 1)).mapIdx fun j f => colOf f (SF j) ds) := (by
            show _ = _
            rw [List.take_succ_eq_append_getElem hlt, List.mapIdx_append, ← HCs.out]
            have hm : min i ls.length = i := by omega
            simp [hm])
          clear hown6 hgrow6
          go_roundw
          case rel => exact ⟨i + 1, _, by omega, by go_num, HCs6, HCr6, HB6⟩
          case measure => simp [intOf]; omega
        · obtain rfl : i = ls.length := by omega
          have HB7 : Hid (Below W.heap.size W wr) := hbw
          have HE : Hid (cs = ls.mapIdx fun j f => colOf f (SF j) ds) := (by show _ = _; rw [HCs.out, List.take_length])
          obtain ⟨oa, oc, eov⟩ : ∃ oa oc, u11 = .slice oa cs.length oc := (by obtain ⟨qs, _, h2, _⟩ := HCr.out; exact own_sl h2)
          subst eov
          have hsw := HB4.out.size
          clear hbw
          go_wp2
          go_ret2
          refine ⟨⟨_, rfl, ?_⟩, HB7.out⟩
          rw [← HE.out]
          exact HCr.out.down hsw
end Go.Proofs.YtbicfjimlpdnkaaGreatDoor
