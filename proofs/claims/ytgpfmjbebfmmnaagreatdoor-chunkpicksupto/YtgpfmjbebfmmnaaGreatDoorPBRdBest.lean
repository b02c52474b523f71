/-
  enc.ReadBest of what Best writes.
  enc.ReadBest at any bytes and any code: the values, or an error.
  The reader of a page's body: values.
-/
import Derived.Test.YtgpfmjbebfmmnaaGreatDoorPBWordsMath
import Derived.Test.YtgpfmjbebfmmnaaGreatDoorPBMapV
import Derived.Test.YtgpfmjbebfmmnaaGreatDoorPBPack
import Derived.Test.YtgpfmjbebfmmnaaGreatDoorPBDict
import Derived.Test.YtgpfmjbebfmmnaaGreatDoorPBRdSteps
import Derived.Test.YtgpfmjbebfmmnaaGreatDoorPBPrefV
import Derived.Test.YtgpfmjbebfmmnaaGreatDoorPBBest
import Derived.Test.YtgpfmjbebfmmnaaGreatDoorPBRsB
namespace Go.Proofs.YtgpfmjbebfmmnaaGreatDoor
open Go.RowKit
theorem pvs_back {vs : List Vl} (hR : Right 4 vs) : pvs (bys (vtx vs)) = vs := by
 unfold pvs bys vtx
 rw [List.map_map, List.map_map]
 refine (List.map_congr_left (fun v hv => ?_)).trans (List.map_id _)
 have ho := (hR.2 v hv).1
 unfold Vl.Ok OkV at ho
 obtain ⟨k, n, s⟩ := v
 simp only [Function.comp_apply, id_eq] at ho ⊢
 rw [mk_bytes]
 obtain ⟨h1, h2⟩ := ho
 have h3 : n = 0 := by omega
 rw [h1, h3]
def IsBs (kd code : Int) (l : List UInt8) (n : Nat) (vs : List Vl) : Prop :=
 if code = 0 then IsPl kd l n vs else if code = 1 then IsDc kd l n vs else if code = 2 then IsDl kd l n vs else IsPr l n vs
def HasC (kd code : Int) : Prop := code = 0 ∨ code = 1 ∨ code = 2 ∧ (kd = 2 ∨ kd = 3) ∨ code = 3 ∧ kd = 4
theorem isBs_fn {kd code : Int} {l : List UInt8} {n : Nat} {vs us : List Vl} (h : IsBs kd code l n vs) (h' : IsBs kd code l n us) : vs = us := by
 unfold IsBs at h h'
 split at h
 · rename_i e; rw [if_pos e] at h'; exact isPl_fn h h'
 · rename_i e
   rw [if_neg e] at h'
   split at h
   · rename_i e1; rw [if_pos e1] at h'; exact isDc_fn h h'
   · rename_i e1
     rw [if_neg e1] at h'
     split at h
     · rename_i e2
       rw [if_pos e2] at h'
       obtain ⟨xs, g1, _, g3, _⟩ := h
       obtain ⟨ys, f1, _, f3, _⟩ := h'
       rw [g1] at f1
       injection f1 with f1
       rw [g3, f3, f1]
     · rename_i e2
       rw [if_neg e2] at h'
       obtain ⟨xs, g1, g3⟩ := h
       obtain ⟨ys, f1, f3⟩ := h'
       rw [g1] at f1
       injection f1 with f1
       rw [g3, f3, f1]
set_option maxRecDepth 100000 in
set_option maxHeartbeats 1600000 in
theorem readBestX_c (kd code : Int) (s : ByteArray) (n : Nat) (w : World) (st kt : TypeId) (sp kp : Value) (hg : w.cell? ⟨2, 0, none⟩ = some (.iface st sp)) (hgk : w.cell? ⟨3, 0, none⟩ = some (.iface kt kp)) (hs : s.size ≤ 1000000) (hn : n ≤ 20000) (hk1 : 1 ≤ kd) (hk5 : kd ≤ 5) (hc : HasC kd code) :
    Calls Tryz.prog 164 #[.int .i64 kd, .int .i64 code, .string s, .int .i64 (n : Nat)] w fun e w' => RetRdC w.heap.size (IsBs kd code s.data.toList n) n (.iface st sp) e w' ∧ Below w.heap.size w w' := by
 rcases hc with rfl | rfl | ⟨rfl, hk⟩ | ⟨rfl, rfl⟩
 · have HC : Hid _ := readPlain_c kd s n w st sp hg hs hn hk1 hk5
   clear hg hgk
   go_enter Tryz.func164, Tryz.ntmps164
   go_wp2_with fail
   refine (checkCount_fine kd n w hk1 hk5 (by omega) (by omega)).mono ?_
   rintro e w1 ⟨rfl, hw⟩
   obtain rfl := hw.symm
   go_wp2_with fail
   refine Calls.mono HC.out ?_
   rintro e w1 ⟨⟨vs, a, c, hI, rfl, hl⟩ | ⟨hI, rfl⟩, hb⟩
   all_goals
    have HI : Hid _ := hI
    try have HL : Hid _ := hl
    try clear hl
    clear hI
    go_wp2
    go_ret2
    first | exact ⟨Or.inl ⟨vs, a, c, HI.out, rfl, HL.out⟩, hb⟩ | exact ⟨Or.inr ⟨HI.out, rfl⟩, hb⟩
 · have HC : Hid _ := readDict_c kd s n w st sp hg hs hn hk1 hk5
   clear hg hgk
   go_enter Tryz.func164, Tryz.ntmps164
   go_wp2_with fail
   refine (checkCount_fine kd n w hk1 hk5 (by omega) (by omega)).mono ?_
   rintro e w1 ⟨rfl, hw⟩
   obtain rfl := hw.symm
   go_wp2_with fail
   refine Calls.mono HC.out ?_
   rintro e w1 ⟨⟨vs, a, c, hI, rfl, hl⟩ | ⟨hI, rfl⟩, hb⟩
   all_goals
    have HI : Hid _ := hI
    try have HL : Hid _ := hl
    try clear hl
    clear hI
    go_wp2
    go_ret2
    first | exact ⟨Or.inl ⟨vs, a, c, HI.out, rfl, HL.out⟩, hb⟩ | exact ⟨Or.inr ⟨HI.out, rfl⟩, hb⟩
 · have HC : Hid _ := readDelta_c kd s n w st kt sp kp hg hgk hs hn hk
   have hd : decide (kd = 2 ∨ kd = 3) = true := by simp [hk]
   clear hg hgk hk
   go_enter Tryz.func164, Tryz.ntmps164
   go_wp2_with fail
   refine (checkCount_fine kd n w hk1 hk5 (by omega) (by omega)).mono ?_
   rintro e w1 ⟨rfl, hw⟩
   obtain rfl := hw.symm
   go_wp2_with fail
   refine (hasDelta_any kd _).mono ?_
   rw [hd]
   rintro e w2 ⟨rfl, hw⟩
   obtain rfl := hw.symm
   go_wp2_with fail
   refine Calls.mono HC.out ?_
   rintro e w1 ⟨⟨vs, a, c, hI, rfl, hl⟩ | ⟨hI, rfl⟩, hb⟩
   all_goals
    have HI : Hid _ := hI
    try have HL : Hid _ := hl
    try clear hl
    clear hI
    go_wp2
    go_ret2
    first | exact ⟨Or.inl ⟨vs, a, c, HI.out, rfl, HL.out⟩, hb⟩ | exact ⟨Or.inr ⟨HI.out, rfl⟩, hb⟩
 · have HC : Hid _ := readPrefixValues_c s n w st sp hg hs hn
   clear hg hgk
   go_enter Tryz.func164, Tryz.ntmps164
   go_wp2_with fail
   refine (checkCount_fine 4 n w (by omega) (by omega) (by omega) (by omega)).mono ?_
   rintro e w1 ⟨rfl, hw⟩
   obtain rfl := hw.symm
   go_wp2_with fail
   refine (hasPrefix_any 4 _).mono ?_
   rintro e w2 ⟨rfl, hw⟩
   obtain rfl := hw.symm
   go_wp2_with fail
   refine Calls.mono HC.out ?_
   rintro e w1 ⟨⟨vs, a, c, hI, rfl, hl⟩ | ⟨hI, rfl⟩, hb⟩
   all_goals
    have HI : Hid _ := hI
    try have HL : Hid _ := hl
    try clear hl
    clear hI
    go_wp2
    go_ret2
    first | exact ⟨Or.inl ⟨vs, a, c, HI.out, rfl, HL.out⟩, hb⟩ | exact ⟨Or.inr ⟨HI.out, rfl⟩, hb⟩
set_option maxRecDepth 100000 in
set_option maxHeartbeats 1600000 in
theorem readBestX_shape (kd code : Int) (s : ByteArray) (n : Nat) (w : World) (ht : TypeId) (hp : Value) (hgs : w.cell? ⟨0, 0, none⟩ = some (.iface ht hp)) (hn : n ≤ 20000) (hk1 : 1 ≤ kd) (hk5 : kd ≤ 5) (hc : ¬ HasC kd code) :
    Calls Tryz.prog 164 #[.int .i64 kd, .int .i64 code, .string s, .int .i64 (n : Nat)] w fun e w' => e = .returned (.tuple #[.slice none 0 0, .iface ht hp]) ∧ Below w.heap.size w w' := by
 have c0 : (code == 0) = false := by rw [beq_eq_false_iff_ne]; exact fun h => hc (Or.inl h)
 have c1 : (code == 1) = false := by rw [beq_eq_false_iff_ne]; exact fun h => hc (Or.inr (Or.inl h))
 have hcase : ((code == 2) = true ∧ (code == 3) = false ∧ decide (kd = 2 ∨ kd = 3) = false) ∨ ((code == 2) = false ∧ (code == 3) = true ∧ decide (kd = 4) = false) ∨ ((code == 2) = false ∧ (code == 3) = false) := by
  unfold HasC at hc
  by_cases h2 : code = 2
  · left
    exact ⟨by simp [h2], by simp [h2], by rw [decide_eq_false_iff_not]; exact fun h => hc (Or.inr (Or.inr (Or.inl ⟨h2, h⟩)))⟩
  · right
    by_cases h3 : code = 3
    · left
      exact ⟨by simp [h3], by simp [h3], by rw [decide_eq_false_iff_not]; exact fun h => hc (Or.inr (Or.inr (Or.inr ⟨h3, h⟩)))⟩
    · right
      exact ⟨by rw [beq_eq_false_iff_ne]; exact h2, by rw [beq_eq_false_iff_ne]; exact h3⟩
 clear hc
 rcases hcase with ⟨c2, c3, hd⟩ | ⟨c2, c3, hd⟩ | ⟨c2, c3⟩
 all_goals
  go_enter Tryz.func164, Tryz.ntmps164
  go_wp2_with fail
  refine (checkCount_fine kd n w hk1 hk5 (by omega) (by omega)).mono ?_
  rintro e w1 ⟨rfl, hw⟩
  obtain rfl := hw.symm
  go_wp2_with (first
   | (go_at_call 116; refine (hasDelta_any kd _).mono ?_; rw [hd]; rintro e w2 ⟨rfl, hw⟩; obtain rfl := hw.symm)
   | (go_at_call 118; refine (hasPrefix_any kd _).mono ?_; rw [hd]; rintro e w2 ⟨rfl, hw⟩; obtain rfl := hw.symm))
  go_quiet (fail)
  go_wp2
  go_ret2
  exact ⟨rfl, dN (Below.refl _ _) _⟩
structure BsAt (s : ByteArray) (kd : Int) (many : Nat) (b : UInt8) (n k : Nat) (vs : List Vl) : Prop where
 code : ∃ r, s.data.toList = b :: r
 tx : LtAt (s.extract 1 s.size) n k
 has : HasC kd b.toNat
 is : IsBs kd b.toNat ((s.extract 1 s.size).extract k (k + n)).data.toList many vs
def VlsR (N R : Nat) (s : ByteArray) (f : Bool) (kd : Int) (many : Nat) (e : Ending) (w' : World) : Prop :=
 (∃ b n k vs a c, BsAt s kd many b n k vs ∧ e = .returned (.slice a many c) ∧ LiesV w' a vs ∧ many ≤ c ∧ Fsh N a ∧ Rdr 200 w' R ((s.extract 1 s.size).extract (k + n) (s.extract 1 s.size).size) f) ∨
 ((¬ ∃ b n k vs, BsAt s kd many b n k vs) ∧ ∃ a l c s', e = .returned (.slice a l c) ∧ s'.size ≤ s.size ∧ Rdr 200 w' R s' true)
set_option maxRecDepth 100000 in
set_option maxHeartbeats 6400000 in
theorem pvals_any (R : Nat) (s : ByteArray) (f : Bool) (kd : Int) (many : Nat) (W : World) (hR : Rdr 200 W R s f) (hs : s.size ≤ 1000000) (hk1 : 1 ≤ kd) (hk5 : kd ≤ 5) (hn : many ≤ 20000) (st kt ht : TypeId) (sp kp hp : Value) (hg : W.cell? ⟨2, 0, none⟩ = some (.iface st sp)) (hgk : W.cell? ⟨3, 0, none⟩ = some (.iface kt kp)) (hgs : W.cell? ⟨0, 0, none⟩ = some (.iface ht hp)) :
    Calls Tryz.prog (135) #[.pointer (some ⟨R, 0, none⟩), .int .i64 kd, .int .i64 many] W fun e w' => VlsR W.heap.size R s f kd many e w' ∧ PFr R W w' := by
 have ck : ∀ {g : Nat} {a : TypeId} {b : Value}, W.cell? ⟨g, 0, none⟩ = some (.iface a b) → ∀ X, PFr R W X → X.cell? ⟨g, 0, none⟩ = some (.iface a b) := fun {g a b} h X hX => hX.cell h (fun e => by
  subst e
  rw [hR.cells.1.1] at h
  cases h)
 have HG : Hid (∀ X, PFr R W X → X.cell? ⟨2, 0, none⟩ = some (.iface st sp)) := ck hg
 have HGK : Hid (∀ X, PFr R W X → X.cell? ⟨3, 0, none⟩ = some (.iface kt kp)) := ck hgk
 have HGS : Hid (∀ X, PFr R W X → X.cell? ⟨0, 0, none⟩ = some (.iface ht hp)) := ck hgs
 obtain ⟨⟨c0, c1⟩, c2, c3⟩ := hR.cells
 have HR : Hid (Rdr 200 W R s f) := hR
 clear hR ck hg hgk hgs
 by_cases h0 : s.size = 0
 · have hse : s = ⟨#[]⟩ := by
     cases s with
     | mk d => simp [ByteArray.size] at h0; subst h0; rfl
   subst hse
   have HM : Hid (¬ ∃ b n k vs, BsAt ⟨#[]⟩ kd many b n k vs) := fun ⟨b, n, k, vs, h⟩ => by obtain ⟨r, h1⟩ := h.code; cases h1
   go_enter Tryz.func135, Tryz.ntmps135
   go_wp2
   go_ret
   exact ⟨.inr ⟨HM.out, _, _, _, _, rfl, Nat.le_refl _, HR.out.fail⟩, (PFr.refl _ _).set⟩
 have hpos : 0 < s.size := by omega
 have hE : s.toList.isEmpty = false := by
  cases hh : s.toList with
  | nil => exact absurd (by have h2 : s.toList.length = 0 := by rw [hh]; rfl
                            rw [ByteArray.toList_eq, Array.length_toList] at h2; exact h2) h0
  | cons _ _ => rfl
 have HC0 : Hid (s.data.toList = s[0] :: s.data.toList.drop 1) := (by
  show _ = _
  have := drop_cons s 0 hpos
  rw [List.drop_zero] at this
  exact this)
 obtain ⟨b, hidx⟩ : ∃ b, s[0] = b := ⟨_, rfl⟩
 rw [hidx] at HC0
 have hb8 := b.toNat_lt
 have hw : wrap64 (b.toNat : Int) = (b.toNat : Int) := by unfold wrap64; omega
 have h1s : (1 : Int) ≤ (s.size : Int) := by omega
 obtain ⟨q, HQ⟩ : ∃ q, Hid (s.extract 1 s.size = q) := ⟨_, rfl⟩
 have hqs : q.size ≤ s.size := by rw [← HQ.out, ByteArray.size_extract]; omega
 have HRq : Hid (Rdr 200 (W.setCell ⟨R, 0, none⟩ (.string q)) R q f) := HR.out.rest q
 have HFq : Hid (PFr R W (W.setCell ⟨R, 0, none⟩ (.string q))) := (PFr.refl _ _).set
 have hex : s.extract 1 s.size = q := HQ.out
 go_enter Tryz.func135, Tryz.ntmps135
 go_upto_region 6 with fail
 (try rw [hex])
 generalize W.setCell ⟨R, 0, none⟩ (.string q) = w1 at HRq HFq ⊢
 clear c0 c1 c2 c3
 go_wp2_with fail
 refine Calls.mono (rtext_any R q f w1 HRq.out (by omega) st sp (HG.out w1 HFq.out)) ?_
 rintro e w2 ⟨hx, hfr⟩
 obtain ⟨tx, s1, f1, rfl, hR1, hz1, hzt, hT1⟩ : ∃ (tx s1 : ByteArray) (f1 : Bool), e = .returned (.string tx) ∧ Rdr 200 w2 R s1 f1 ∧ s1.size ≤ s.size ∧ tx.size ≤ s.size ∧ ((f1 = true ∧ ¬ ∃ n k, LtAt q n k) ∨ (f1 = f ∧ ∃ n k, LtAt q n k ∧ tx = q.extract k (k + n) ∧ s1 = q.extract (k + n) q.size)) := by
  rcases hx with ⟨n, k, h1, h2, h3⟩ | ⟨h1, h2, h3⟩
  · have hsz : (q.extract k (k + n)).size = n := by rw [ByteArray.size_extract]; have := h1.fit; omega
    exact ⟨_, _, _, h2, h3, by rw [ByteArray.size_extract]; omega, by rw [hsz]; have := h1.fit; omega, .inr ⟨rfl, n, k, h1, rfl, rfl⟩⟩
  · exact ⟨_, _, _, h2, h3, hqs, Nat.zero_le _, .inl ⟨rfl, h1⟩⟩
 have HF2 : Hid (PFr R W w2) := HFq.out.trans hfr
 have HR2 : Hid (Rdr 200 w2 R s1 f1) := hR1
 have HT2 : Hid ((f1 = true ∧ ¬ ∃ n k, LtAt q n k) ∨ (f1 = f ∧ ∃ n k, LtAt q n k ∧ tx = q.extract k (k + n) ∧ s1 = q.extract (k + n) q.size)) := hT1
 clear hx hfr hR1 hT1 HRq HFq hex
 by_cases hc : HasC kd b.toNat
 · have HC : Hid (HasC kd b.toNat) := hc
   have HRd : Hid (Calls Tryz.prog 164 #[.int .i64 kd, .int .i64 b.toNat, .string tx, .int .i64 (many : Nat)] w2 fun e w' => RetRdC w2.heap.size (IsBs kd b.toNat tx.data.toList many) many (.iface st sp) e w' ∧ Below w2.heap.size w2 w') := readBestX_c kd b.toNat tx many w2 st kt sp kp (HG.out w2 HF2.out) (HGK.out w2 HF2.out) (by omega) hn hk1 hk5 hc
   clear hc
   go_wp2_with fail
   refine Calls.mono HRd.out ?_
   rintro e w3 ⟨hr, hb3⟩
   have HF3 : Hid (PFr R W w3) := HF2.out.trans (.of_below hb3)
   have HR3 : Hid (Rdr 200 w3 R s1 f1) := HR2.out.keep hb3
   have hz2 : W.heap.size ≤ w2.heap.size := HF2.out.size
   clear hb3 HR2 HF2 HRd
   obtain ⟨⟨c0, c1⟩, c2, c3⟩ := HR3.out.cells
   rcases hr with ⟨vs, a, c, hp, rfl, hl, hcp, hfs⟩ | ⟨hr, rfl⟩
   · have HO : Hid (VlsR W.heap.size R s f kd many (.returned (.slice a many c)) w3) := (by
       rcases HT2.out with ⟨rfl, h2⟩ | ⟨rfl, n, k, h2, h3, h4⟩
       · exact .inr ⟨fun ⟨b', n, k, vs', h⟩ => h2 ⟨n, k, by have := h.tx; rw [HQ.out] at this; exact this⟩, _, _, _, _, rfl, hz1, HR3.out⟩
       · refine .inl ⟨b, n, k, vs, a, c, ⟨⟨_, HC0.out⟩, by rw [HQ.out]; exact h2, HC.out, by rw [HQ.out, ← h3]; exact hp⟩, rfl, hl, hcp, hfs.low hz2, ?_⟩
         rw [HQ.out, ← h4]
         exact HR3.out)
     clear hp hl hcp hfs
     go_wp2
     go_ret
     exact ⟨HO.out, HF3.out⟩
   · have HM : Hid (¬ ∃ b n k vs, BsAt s kd many b n k vs) := fun ⟨b', n, k, vs, h⟩ => by
       obtain ⟨r, h1⟩ := h.code
       rw [HC0.out] at h1
       cases h1
       have h5 := h.tx
       have h6 := h.is
       rw [HQ.out] at h5 h6
       rcases HT2.out with ⟨_, h2⟩ | ⟨_, n', k', h2, h3, _⟩
       · exact h2 ⟨n, k, h5⟩
       · obtain ⟨rfl, rfl⟩ := h5.fn h2
         rw [← h3] at h6
         exact hr ⟨vs, h6⟩
     clear hr
     go_wp2
     go_ret
     exact ⟨.inr ⟨HM.out, _, _, _, _, rfl, hz1, HR3.out.fail⟩, HF3.out.set⟩
 · have HRd : Hid (Calls Tryz.prog 164 #[.int .i64 kd, .int .i64 b.toNat, .string tx, .int .i64 (many : Nat)] w2 fun e w' => e = .returned (.tuple #[.slice none 0 0, .iface ht hp]) ∧ Below w2.heap.size w2 w') := readBestX_shape kd b.toNat tx many w2 ht hp (HGS.out w2 HF2.out) hn hk1 hk5 hc
   have HM : Hid (¬ ∃ b n k vs, BsAt s kd many b n k vs) := fun ⟨b', n, k, vs, h⟩ => by
    obtain ⟨r, h1⟩ := h.code
    rw [HC0.out] at h1
    cases h1
    exact hc h.has
   clear hc
   go_wp2_with fail
   refine Calls.mono HRd.out ?_
   rintro e w3 ⟨rfl, hb3⟩
   have HF3 : Hid (PFr R W w3) := HF2.out.trans (.of_below hb3)
   have HR3 : Hid (Rdr 200 w3 R s1 f1) := HR2.out.keep hb3
   clear hb3 HR2 HF2 HRd
   obtain ⟨⟨c0, c1⟩, c2, c3⟩ := HR3.out.cells
   go_wp2
   go_ret
   exact ⟨.inr ⟨HM.out, _, _, _, _, rfl, hz1, HR3.out.fail⟩, HF3.out.set⟩
end Go.Proofs.YtgpfmjbebfmmnaaGreatDoor
