/-
  The reference's OwnDatum: a copy of a record, with lists of its own.
  Copies of records behind copies of records.
  A schema's error, and its number.
-/
import Derived.Test.YteonbmaokphleaaGreatDoorHOwnD
import Derived.Test.YteonbmaokphleaaGreatDoorHBIds
import Derived.Test.YteonbmaokphleaaGreatDoorHRefErr
import Derived.Deep.RegionHeld3
import Derived.Test.YteonbmaokphleaaGreatDoorHAppAny
import Derived.Test.YteonbmaokphleaaGreatDoorHBCode
namespace Go.Proofs.YteonbmaokphleaaGreatDoor
open Go.RowKit
theorem LiesD.off {w : World} {P : Nat → Prop} {a : Option Addr} {ds : List Dt} {g j : Nat} {v : Value} (h : LiesD w P a ds) (hP : ∀ b, P b → b ≠ g) : LiesD (w.setCell ⟨g, j, none⟩ v) P a ds := h.stay (fun _ h _ => h) (fun b hb _ => Below.heap_setCell _ ⟨g, j, none⟩ _ _ (hP b hb))
theorem row_six_z {w : World} {g e : Nat} {x0 x1 x2 x3 x4 x5 : Value} (h : w.heap[g]? = some (.cells #[x0, x1, x2, x3, x4, x5] e (0, 0))) : w.frozen? ⟨g, 0, none⟩ = false ∧ w.frozen? ⟨g, 1, none⟩ = false ∧ w.frozen? ⟨g, 2, none⟩ = false ∧ w.frozen? ⟨g, 3, none⟩ = false ∧ w.frozen? ⟨g, 4, none⟩ = false ∧ w.frozen? ⟨g, 5, none⟩ = false := by
 unfold World.frozen?
 simp [h]
set_option maxRecDepth 100000 in
set_option maxHeartbeats 3200000 in
theorem ownDatum_of (d : Dt) (hsm : d.Sm) (hol : ∀ j (h : j < d.l.length), OwnsD d.l[j]) (hof : ∀ j (h : j < d.f.length), OwnsD d.f[j]) : OwnsD d := fun P al cl af cf W hl hf => by
 obtain ⟨hll, hlf⟩ : d.l.length ≤ 1048576 ∧ d.f.length ≤ 1048576 := by cases hsm with | mk no v l f hs hl' hf' el ef => exact ⟨hl', hf'⟩
 obtain ⟨w0, HW0, HX, HZ, HB⟩ := two_boxesS W #[.bool d.no, .int .i64 d.v.k, .int .i64 d.v.n, .string d.v.s, .slice al d.l.length cl, .slice af d.f.length cf] #[.bool false, .int .i64 0, .int .i64 0, .string ⟨#[]⟩, .slice none 0 0, .slice none 0 0] 56 56
 have HCL : Hid (∀ X, Below (W.heap.size + 1) w0 X → Calls Tryz.prog 9 #[.slice al d.l.length cl] X fun e w' => (∃ a' c', e = .returned (.slice a' d.l.length c') ∧ LiesD w' (fun b => X.heap.size ≤ b) a' d.l) ∧ Below X.heap.size X w') := fun X hX => ownData_of d.l hll hol _ al cl X (hl.keep (HB.out.trans (hX.mono (by omega))))
 have HCF : Hid (∀ X, Below (W.heap.size + 1) w0 X → Calls Tryz.prog 9 #[.slice af d.f.length cf] X fun e w' => (∃ a' c', e = .returned (.slice a' d.f.length c') ∧ LiesD w' (fun b => X.heap.size ≤ b) a' d.f) ∧ Below X.heap.size X w') := fun X hX => ownData_of d.f hlf hof _ af cf X (hf.keep (HB.out.trans (hX.mono (by omega))))
 have b0 : Below (W.heap.size + 1) w0 w0 := Below.refl _ _
 have hsz : W.heap.size + 1 + 1 ≤ w0.heap.size := lt_of_block HZ.out
 have HN : Hid (∀ X, Below (W.heap.size + 1) w0 X → (X.cell? ⟨W.heap.size, 0, none⟩ = some (.bool d.no) ∧ X.cell? ⟨W.heap.size, 1, none⟩ = some (.int .i64 d.v.k) ∧ X.cell? ⟨W.heap.size, 2, none⟩ = some (.int .i64 d.v.n) ∧ X.cell? ⟨W.heap.size, 3, none⟩ = some (.string d.v.s) ∧ X.cell? ⟨W.heap.size, 4, none⟩ = some (.slice al d.l.length cl) ∧ X.cell? ⟨W.heap.size, 5, none⟩ = some (.slice af d.f.length cf)) ∧ Below (W.heap.size + 1) w0 X) := fun X hX => ⟨row_six ((hX.block W.heap.size (by omega)).trans HX.out), hX⟩
 obtain ⟨p0, p1, p2, p3, p4, p5⟩ := row_six HX.out
 obtain ⟨z0, z1, z2, z3, z4, z5⟩ := row_six HZ.out
 obtain ⟨y0, y1, y2, y3, y4, y5⟩ := row_six_z HZ.out
 clear hl hf hol hof hsm
 unfold datumV
 go_enter Tryz.func27, Tryz.ntmps27
 go_wp2
 rw [HW0.out]
 go_region_held3 (fun X => (X.cell? ⟨W.heap.size, 0, none⟩ = some (.bool d.no) ∧ X.cell? ⟨W.heap.size, 1, none⟩ = some (.int .i64 d.v.k) ∧ X.cell? ⟨W.heap.size, 2, none⟩ = some (.int .i64 d.v.n) ∧ X.cell? ⟨W.heap.size, 3, none⟩ = some (.string d.v.s) ∧ X.cell? ⟨W.heap.size, 4, none⟩ = some (.slice al d.l.length cl) ∧ X.cell? ⟨W.heap.size, 5, none⟩ = some (.slice af d.f.length cf)) ∧ Below (W.heap.size + 1) w0 X) (first | (with_reducible refine HN.out _ ?_; repeat' (first | with_reducible assumption | with_reducible exact b0.drew | with_reducible exact b0 | with_reducible exact HB1.out | with_reducible exact HB2.out | with_reducible refine Below.setCell ?_ ?_ _ | (simp; done)))) (first
  | (go_at_call 9; (with_reducible refine Calls.mono (HCL.out _ (by first | exact b0.drew | exact b0)) ?_); rintro e w1 ⟨⟨a1, c1, rfl, hl1⟩, hb1⟩; have HL1 : Hid (LiesD w1 (fun b => w0.heap.size ≤ b) a1 d.l) := hl1; have HZ1 : Hid _ := blk_keep hb1 HZ.out; have HB1 : Hid (Below (W.heap.size + 1) w0 w1) := (Below.refl _ _).drew.trans (hb1.mono (by simp; omega)); clear hl1 hb1)
  | (go_at_call 9; (with_reducible refine Calls.mono (HCF.out _ HB1.out) ?_); rintro e w2 ⟨⟨a2, c2, rfl, hf2⟩, hb2⟩; have HF2 : Hid (LiesD w2 (fun b => w0.heap.size ≤ b) a2 d.f) := hf2.stay (fun b h _ => Nat.le_trans HB1.out.size h) (fun _ _ _ => rfl); have HL2 : Hid (LiesD w2 (fun b => w0.heap.size ≤ b) a1 d.l) := HL1.out.keep hb2; have HB2 : Hid (Below (W.heap.size + 1) w0 w2) := HB1.out.trans (hb2.mono (by have := HB1.out.size; omega)); obtain ⟨x0, x1, x2, x3, x4, x5⟩ := row_six (blk_keep hb2 HZ1.out); obtain ⟨v0, v1, v2, v3, v4, v5⟩ := row_six_z (blk_keep hb2 HZ1.out); have HZ2 : Hid _ := blk_keep hb2 HZ1.out; clear hf2 hb2))
 all_goals
  go_wp2
  have fr : ∀ b, w0.heap.size ≤ b → b ≠ W.heap.size + 1 := fun b h => by omega
  have st : ∀ b, w0.heap.size ≤ b → b < w2.heap.size → W.heap.size ≤ b := fun b h _ => by omega
  exact bodyPost_ret (v := .agg #[.bool d.no, .int .i64 d.v.k, .int .i64 d.v.n, .string d.v.s, .slice a1 d.l.length c1, .slice a2 d.f.length c2]) (results_cell_row Tryz.results27 _ _ (W.heap.size + 1) 56 #[.bool d.no, .int .i64 d.v.k, .int .i64 d.v.n, .string d.v.s, .slice a1 d.l.length c1, .slice a2 d.f.length c2] (0, 0) _ rfl (row_setCell (row_setCell (row_setCell (row_setCell (row_setCell (row_setCell HZ2.out _) _) _) _) _) _) Tryz.underlying56 rfl (by kernel_rfl)) rfl ⟨⟨a1, c1, a2, c2, rfl, ((((((HL2.out.off fr).off fr).off fr).off fr).off fr).off fr).stay (fun b h _ => by omega) (fun _ _ _ => rfl), ((((((HF2.out.off fr).off fr).off fr).off fr).off fr).off fr).stay (fun b h _ => by omega) (fun _ _ _ => rfl)⟩, ((((((HB.out.trans (HB2.out.mono (by omega))).setCell (by simp) _).setCell (by simp) _).setCell (by simp) _).setCell (by simp) _).setCell (by simp) _).setCell (by simp) _⟩
theorem ownDatum_any : ∀ (n : Nat) (d : Dt), SizeOf.sizeOf d < n → d.Sm → OwnsD d
 | 0, d, h => absurd h (Nat.not_lt_zero _)
 | n + 1, d, hsz => fun hsm => by
  obtain ⟨el, ef⟩ : (∀ j (h : j < d.l.length), d.l[j].Sm) ∧ ∀ j (h : j < d.f.length), d.f[j].Sm := by cases hsm with | mk no v l f hs hl hf el ef => exact ⟨el, ef⟩
  exact ownDatum_of d hsm (fun j h => ownDatum_any n d.l[j] (by have := d.l_size j h; omega) (el j h)) (fun j h => ownDatum_any n d.f[j] (by have := d.f_size j h; omega) (ef j h))
theorem ownsD (d : Dt) (h : d.Sm) : OwnsD d := ownDatum_any _ d (Nat.lt_succ_self _) h
theorem OD.append {W w1 w2 w3 : World} {A B : List Dt} {lA lB lC : Value} {na nb : List (List Value)} (hA : OD W A w1 A.length lA na) (hB : OD w1 B w2 B.length lB nb) (hown : w3.ownsRow W.heap.size 56 6 lC (A.length + B.length) (na.flatten ++ nb.flatten)) (hg : w2.grownBy w3 lA.ownBlock) (hw : lC.ownBlock = lA.ownBlock ∨ lC.ownBlock = some w2.heap.size) : OD W (A ++ B) w3 (A ++ B).length lC (na ++ nb) := by
 have h1 := hA.old.size
 have h2 := hB.old.size
 have h3 := hg.size
 have hla : ∀ k, lA.ownBlock = some k → W.heap.size ≤ k ∧ k < w1.heap.size := fun k hk => hA.row.lt k hk
 refine ⟨by rw [List.length_append, List.length_append, hA.len, hB.len], fun x hx => ?_, ?_, fun j hj hj' => ?_, (hA.old.trans (hB.old.mono h1)).grown hg (by omega) (fun k hk => (hla k hk).1)⟩
 · rcases List.mem_append.1 hx with hx | hx
   · exact hA.six x hx
   · exact hB.six x hx
 · rw [List.flatten_append, List.length_append]
   exact hown
 · by_cases hlt : j < na.length
   · have hja : j < A.length := by have := hA.len; omega
     rw [List.getElem_append_left hlt, List.getElem_append_left hja]
     refine (hA.each j hlt hja).stay (fun b hb hbl => ⟨hb.1, fun e => ?_⟩) (fun b hb hbl => ?_)
     · rw [hg.block b (by omega) (fun e => hb.2 e.symm), hB.old.block b hbl]
     · rcases hw with e2 | e2
       · exact hb.2 (e2.symm.trans e)
       · rw [e2] at e; injection e with e; omega
   · have hja : ¬ j < A.length := by have := hA.len; omega
     have hlen := hA.len
     have hj2 : j - na.length < nb.length := by rw [List.length_append] at hj; omega
     have hj3 : j - A.length < B.length := by rw [List.length_append] at hj'; omega
     rw [List.getElem_append_right (by omega), List.getElem_append_right (by omega)]
     have he : DtC w2 (fun b => w1.heap.size ≤ b ∧ lB.ownBlock ≠ some b) B[j - A.length] nb[j - na.length] := by
      have := hB.each (j - na.length) hj2 (by omega)
      simp only [hlen] at this ⊢
      exact this
     refine he.stay (fun b hb hbl => ⟨by omega, fun e => ?_⟩) (fun b hb hbl => ?_)
     · rw [hg.block b (by omega) (fun e => by have := hla b e.symm; omega)]
     · rcases hw with e2 | e2
       · have := hla b (e2.symm.trans e); omega
       · rw [e2] at e; injection e with e; omega
theorem OD.cells {W w : World} {B : List Dt} {a : Option Addr} {c : Nat} {nb : List (List Value)} (h : OD W B w B.length (.slice a B.length c) nb) : (nb.flatten.length = B.length * 6) ∧ (∀ j u, nb.flatten[j]? = some u → ∃ p, a = some p ∧ w.cell? (p.add j) = some u) ∧ ∀ u ∈ nb.flatten, u.oneCell' = true := by
 refine ⟨h.row.1, fun j u hu => ?_, fun u hu => ?_⟩
 · rcases h.row.2 with ⟨e, h0⟩ | ⟨g, cap, cur, e, _⟩
   · have hl := h.row.1
     rw [h0] at hl
     rw [List.eq_nil_of_length_eq_zero (by omega : nb.flatten.length = 0)] at hu
     simp at hu
   · injection e with e _ _
     exact ⟨_, e, h.row.cells (g := g) (by rw [e]; rfl) j u hu⟩
 · obtain ⟨cs, hcs, hu⟩ := List.mem_flatten.1 hu
   obtain ⟨j, hj, rfl⟩ := List.getElem_of_mem hcs
   obtain ⟨al, cl, af, cf, e, _⟩ := (h.each j hj (by have := h.len; omega)).split
   rw [e] at hu
   simp at hu
   rcases hu with rfl | rfl | rfl | rfl | rfl | rfl <;> rfl
theorem Errs.er3 {W : World} {A : Nat → Addr} (h : Errs W A) : Er3 W (190, .pointer (some (A 1))) (190, .pointer (some (A 2))) (190, .pointer (some (A 4))) :=
 ⟨(h.at_ 1 (by omega)).var, (h.at_ 2 (by omega)).var, (h.at_ 4 (by omega)).var⟩
end Go.Proofs.YteonbmaokphleaaGreatDoor
