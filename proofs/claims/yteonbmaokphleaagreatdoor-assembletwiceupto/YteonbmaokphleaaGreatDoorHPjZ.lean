/-
  schema.staying of a right schema.
-/
import Derived.Test.YteonbmaokphleaaGreatDoorHBPathX
import Derived.Test.YteonbmaokphleaaGreatDoorHBCopyN
namespace Go.Proofs.YteonbmaokphleaaGreatDoor
open Go.RowKit Go.Maps
set_option maxRecDepth 100000 in
set_option maxHeartbeats 1600000 in
theorem staying_any (t : Tr) (n : Nat) (hd : t.Dp n) (hn : n ≤ 900) (hs : t.Sm) (hc : t.cnt ≤ 800) (qb : Nat) (q : List Int) (a : Option Addr) (c : Nat) (P : Nat → Prop) (W : World) (hl : LiesN W P a t.sub) (hcap : t.sub.length ≤ c) (hq : SetI qb q W) :
    Calls Tryz.prog 59 #[nodeV t a c, .map (some qb)] W fun e w' => (∃ mb, e = .returned (.map (some mb)) ∧ SetI mb (stayI q t) w' ∧ W.heap.size ≤ mb) ∧ Below W.heap.size W w' := by
 have hmm := @run_makeMap Tryz.prog
 have hb : Below W.heap.size W ((((W.alloc (.cells #[.int .i64 t.id, .string t.nm, .int .i64 t.rep, .int .i64 t.kind, .slice a t.sub.length c] 24)).alloc (.cells #[.map (some qb)] 116)).alloc (.map #[] 0)).alloc (.cells #[.map (some (W.heap.size + 2))] 116)) := ((((Below.refl _ _).alloc (Nat.le_refl _) _).alloc (by simp) _).alloc (by simp; omega) _).alloc (by simp; omega) _
 have hset : SetI (W.heap.size + 2) [] ((((W.alloc (.cells #[.int .i64 t.id, .string t.nm, .int .i64 t.rep, .int .i64 t.kind, .slice a t.sub.length c] 24)).alloc (.cells #[.map (some qb)] 116)).alloc (.map #[] 0)).alloc (.cells #[.map (some (W.heap.size + 2))] 116)) := ⟨by simp, by
  have h := World.ownsMap_made ((W.alloc (.cells #[.int .i64 t.id, .string t.nm, .int .i64 t.rep, .int .i64 t.kind, .slice a t.sub.length c] 24)).alloc (.cells #[.map (some qb)] 116)) Tryz.prog 3 (unitElem (H := Unit))
  rw [show ((W.alloc (.cells #[.int .i64 t.id, .string t.nm, .int .i64 t.rep, .int .i64 t.kind, .slice a t.sub.length c] 24)).alloc (.cells #[.map (some qb)] 116)).heap.size = W.heap.size + 2 by simp] at h
  exact h.alloc _⟩
 have hc0 : ((((W.alloc (.cells #[.int .i64 t.id, .string t.nm, .int .i64 t.rep, .int .i64 t.kind, .slice a t.sub.length c] 24)).alloc (.cells #[.map (some qb)] 116)).alloc (.map #[] 0)).alloc (.cells #[.map (some (W.heap.size + 2))] 116)).heap[W.heap.size + 1]? = some (.cells #[.map (some qb)] 116 (0, 0)) := by
  have h := heap_alloc_new (W.alloc (.cells #[.int .i64 t.id, .string t.nm, .int .i64 t.rep, .int .i64 t.kind, .slice a t.sub.length c] 24)) (.cells #[.map (some qb)] 116)
  rw [show (W.alloc (.cells #[.int .i64 t.id, .string t.nm, .int .i64 t.rep, .int .i64 t.kind, .slice a t.sub.length c] 24)).heap.size = W.heap.size + 1 by simp] at h
  exact blk_alloc (blk_alloc h)
 have hc1 : ((((W.alloc (.cells #[.int .i64 t.id, .string t.nm, .int .i64 t.rep, .int .i64 t.kind, .slice a t.sub.length c] 24)).alloc (.cells #[.map (some qb)] 116)).alloc (.map #[] 0)).alloc (.cells #[.map (some (W.heap.size + 2))] 116)).heap[W.heap.size + 3]? = some (.cells #[.map (some (W.heap.size + 2))] 116 (0, 0)) := by
  have h := heap_alloc_new (((W.alloc (.cells #[.int .i64 t.id, .string t.nm, .int .i64 t.rep, .int .i64 t.kind, .slice a t.sub.length c] 24)).alloc (.cells #[.map (some qb)] 116)).alloc (.map #[] 0)) (.cells #[.map (some (W.heap.size + 2))] 116)
  rwa [show (((W.alloc (.cells #[.int .i64 t.id, .string t.nm, .int .i64 t.rep, .int .i64 t.kind, .slice a t.sub.length c] 24)).alloc (.cells #[.map (some qb)] 116)).alloc (.map #[] 0)).heap.size = W.heap.size + 3 by simp] at h
 have hql := hq.lt
 have HC : Hid _ := wkY_any (stYp q) (YI (W.heap.size + 1) qb q (W.heap.size + 3) (W.heap.size + 2)) (fun _ _ => True) (fun path t => (∀ y ∈ path ++ [t], y.Sm) ∧ ∃ m, t.Dp m ∧ path.length + m ≤ 1000) (fun s => s.1) 801 (W.heap.size + 1) (W.heap.size + 3) W.heap.size (W.heap.size + 4) (by omega)
  (fun s W' w' r hi hg hr => hi.stay (hg.block _ (lt_of_block hi.c0) (fun e => by have := (hr _ e.symm).1; omega)) (hg.block _ hi.asked.lt (fun e => by have := (hr _ e.symm).1; omega)) (hg.block _ (lt_of_block hi.c1) (fun e => by have := (hr _ e.symm).1; omega)) (hg.block _ hi.set.lt (fun e => by have := (hr _ e.symm).1; omega)))
  (fun path t hq j hj => ⟨fun y hy => by
   rcases List.mem_append.1 hy with h | h
   · exact hq.1 y h
   · rw [List.mem_singleton.1 h]; exact (hq.1 t (by simp)).at_ j hj, by
   obtain ⟨m, h1, h2⟩ := hq.2
   have h3 := h1.pos
   obtain ⟨m', rfl⟩ : ∃ m', m = m' + 1 := ⟨m - 1, by omega⟩
   exact ⟨m', h1.at_ j hj, by simp; omega⟩⟩) (fun s path t => by simp [stYp])
  (fun s path t a c v W' hq hm h1 h2 h3 hcap h4 h5 => staying1_any (W.heap.size + 1) qb q (W.heap.size + 3) (W.heap.size + 2) W.heap.size (W.heap.size + 4) (by omega) (by omega) (by omega) (by omega) (by omega) s (by omega) path t hq.1 (by obtain ⟨m, _, h⟩ := hq.2; omega) a c v W' h1 h2 h3 hcap h5)
  n t hd hs (0, []) [] a c (.slice none 0 0) _ ⟨fun y hy => by simp at hy; subst hy; exact hs, n, hd, by simp; omega⟩ (by simp; omega) (by simp; omega)
  ⟨hc0, hq.keep hb, hc1, hset, by simp, by omega⟩ (PathR.nil _ _ _) (hl.stay (fun b _ h => h) (fun b _ h => hb.block b h)) hcap (by simp)
 have HB : Hid _ := hb
 clear hl hd hs hb hset hc0 hc1 hq
 unfold nodeV at *
 go_enter Tryz.func59, Tryz.ntmps59
 go_wp2_with fail
 refine Calls.mono HC.out ?_
 rintro e w1 ⟨rfl, hi, _, hf, _⟩
 have hy := wkYp_T q t (0, []) []
 have hi2 := hi hy.1
 have HF : Hid (Below W.heap.size W w1) := HB.out.trans hf.below
 have HS : Hid (SetI (W.heap.size + 2) (stayI q t) w1) := (by have h := hi2.set; rw [hy.2] at h; exact h)
 obtain ⟨c0, _⟩ := row_one hi2.c1
 clear hf hi hi2 hy
 go_wp2
 go_ret
 exact ⟨⟨_, rfl, HS.out, by omega⟩, HF.out⟩
end Go.Proofs.YteonbmaokphleaaGreatDoor
