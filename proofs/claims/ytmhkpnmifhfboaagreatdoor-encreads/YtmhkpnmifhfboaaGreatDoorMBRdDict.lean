/-
  enc.ReadDict of what Dict writes.
  enc.ReadDict at any bytes: the values, or an error.
-/
import Derived.Test.YtmhkpnmifhfboaaGreatDoorMBDictMath
import Derived.Test.YtmhkpnmifhfboaaGreatDoorMBDict
import Derived.Test.YtmhkpnmifhfboaaGreatDoorMBReadSame
namespace Go.Proofs.YtmhkpnmifhfboaaGreatDoor
open Go.RowKit
theorem nats_pints (ps : List Nat) : nats (pints ps) = ps := by
  unfold nats pints
  rw [List.map_map]
  refine (List.map_congr_left (fun x _ => ?_)).trans (List.map_id _)
  simp
theorem runs_back {vs us : List Vl} {ps : List Nat} (h : Uq vs us ps) (hn : vs.length ≤ 300) : Um.runs (Um.wrs (Um.pw us.length) [] (pints ps)) (Um.pw us.length) ps.length = some (ps, (Um.wrs (Um.pw us.length) [] (pints ps)).length) := by
  have hlen := h.len
  have hr := Um.wrs_read (Um.pw us.length) (pints ps).length [] (pints ps) [] (Nat.le_refl _) (Or.inr rfl) (fun x hx => by simp [nats] at hx) (nats_lt (pints_room h (by omega))) (by rw [pints_len]; simp; omega)
  rw [List.append_nil, List.nil_append, List.length_nil, Nat.zero_add, nats_pints, pints_len] at hr
  exact hr
set_option maxRecDepth 100000 in
set_option maxHeartbeats 3200000 in
theorem readDict_right (kd : Int) (s : ByteArray) (vs us : List Vl) (ps : List Nat) (w : World) (st : TypeId) (sp : Value) (hg : w.cell? ⟨3, 0, none⟩ = some (.iface st sp)) (hs : s.size ≤ 1000000) (hn : vs.length ≤ 300) (hu : Uq vs us ps) (hR : Right kd vs) (he : s.data.toList = dictB kd us ps) :
    Calls Tryz.prog 16 #[.int .i64 kd, .string s, .int .i64 (vs.length : Nat)] w fun e w' => (∃ a c, e = .returned (.tuple #[.slice a vs.length c, .nilIface]) ∧ LiesV w' a vs) ∧ Below w.heap.size w w' := by
  have HU : Hid (Uq vs us ps) := hu
  have HR : Hid (Right kd vs) := hR
  have HG : Hid _ := hg
  have hlen := hu.len
  obtain ⟨wl, HWL⟩ : ∃ wl, Hid (wl = Um.wrs (Um.pw us.length) [] (pints ps)) := ⟨_, rfl⟩
  obtain ⟨u, HUu⟩ : ∃ u, Hid (u = (Um.uv us.length ++ Um.txt (plainB kd us)).length) := ⟨_, rfl⟩
  have he2 : s.data.toList = Um.uv us.length ++ Um.txt (plainB kd us) ++ wl := by rw [he, HWL.out]; rfl
  have HRL := readUnlike_right kd s vs.length us wl w st sp hg hs (by omega) hlen.2 (right_sub hR hu.sub) he2
  rw [← HUu.out] at HRL
  have hsz : s.size = u + wl.length := by
    have h := congrArg List.length he2
    rw [Array.length_toList, List.length_append, ← HUu.out] at h
    exact h
  have HX : Hid ((s.extract u s.size).data.toList = wl) := by
    show _ = _
    rw [drop_ext, he2, HUu.out, List.drop_left]
  have HRB : Hid (Um.runs wl (Um.pw us.length) ps.length = some (ps, wl.length)) := by show _ = _; rw [HWL.out]; exact runs_back hu hn
  have hxs : (s.extract u s.size).size ≤ 1000000 := by rw [ByteArray.size_extract]; omega
  have hpl : ps.length = vs.length := hlen.1
  have HRR : Hid (∀ W, W.cell? ⟨3, 0, none⟩ = some (.iface st sp) → Calls Tryz.prog 36 #[.string (s.extract u s.size), .int .i64 (Um.pw us.length : Nat), .int .i64 (vs.length : Nat)] W fun e w' => (∃ a c, e = .returned (.tuple #[.slice a vs.length c, .int .i64 (wl.length : Nat), .nilIface]) ∧ Lies w' a (i64s (pints ps))) ∧ Below W.heap.size W w') := fun W hW => by
    have h := readRuns_any (s.extract u s.size) (Um.pw us.length) vs.length W st sp hxs (Um.pw_le (by omega)) (by omega) hW
    rw [HX.out, ← hpl, HRB.out] at h
    rw [← hpl]
    exact h
  have hul : us.length ≤ 300 := by omega
  have hle : u ≤ s.size := by omega
  have HSZ : Hid (s.size = u + wl.length) := hsz
  have hne : (((u : Int) + (wl.length : Int)) != (s.size : Int)) = false := by simp; omega
  have hww : wl.length ≤ 1000000 := by omega
  clear hu hR hg hlen he he2 hsz hpl
  go_enter Tryz.func16, Tryz.ntmps16
  go_wp2_with fail
  refine (checkCount_fine kd vs.length w HR.out.1.1 HR.out.1.2 (by omega) (by omega)).mono ?_
  rintro e w1 ⟨rfl, hw⟩
  obtain rfl := hw.symm
  go_wp2_with fail
  refine HRL.mono ?_
  clear HRL
  rintro e w1 ⟨⟨a1, c1, rfl, hl1⟩, hb1⟩
  have HL1 : Hid (LiesV w1 a1 us) := hl1
  have hg1 := (hb1.cell (World.block_lt_of_cell? w _ HG.out)).trans HG.out
  have HG1 : Hid _ := hg1
  clear hl1 hg1
  go_wp2_with fail
  have HPW : Hid (∀ W : World, Calls Tryz.prog 37 #[.slice a1 us.length c1] W fun e w' => e = .returned (.int .i64 (Um.pw us.length : Nat)) ∧ w' = W) := fun W => placeWidth_any a1 us.length c1 W (by omega)
  go_region_with (first | (go_at_call 37; refine (HPW.out _).mono ?_; rintro e w' ⟨rfl, hw⟩; obtain rfl := hw.symm) | (go_at_call 36; refine (HRR.out w1.drew HG1.out).mono ?_; rintro e w5 ⟨⟨a5, c5, rfl, hl5⟩, hb5⟩))
  all_goals
    have hb15 : Below w.heap.size w w5 := hb1.drew.trans (hb5.mono hb1.size)
    have HL5 : Hid (LiesV w5 a1 us) := LiesV.keep HL1.out ((Below.refl _ _).drew.trans hb5)
    have HP5 : Hid (∀ j (h : j < ps.length), ∃ b o, a5 = some ⟨b, o, none⟩ ∧ w5.cell? ⟨b, o + j, none⟩ = some (.int .i64 ps[j])) := fun j h => by
      obtain ⟨b, o, e, hc⟩ := hl5 j (by rw [i64s_len, pints_len]; exact h)
      refine ⟨b, o, e, ?_⟩
      rw [hc]
      simp [i64s, pints]
    clear hl5
    have hat := atPlaces_right a1 a5 c1 c5 vs us ps w5 (by omega) HU.out HL5.out HP5.out (fun v hv => (HR.out.2 v hv).2)
    rw [HU.out.len.1] at hat
    go_wp2_with fail
    refine hat.mono ?_
    clear hat
    rintro e w6 ⟨⟨a6, c6, rfl, hl6⟩, hb6⟩
    have HL6 : Hid _ := hl6
    clear hl6
    go_wp2
    go_ret2
    exact ⟨⟨a6, c6, rfl, HL6.out⟩, hb15.trans (hb6.mono hb15.size)⟩
end Go.Proofs.YtmhkpnmifhfboaaGreatDoor

namespace Go.Proofs.YtmhkpnmifhfboaaGreatDoor
open Go.RowKit
set_option maxRecDepth 100000 in
set_option maxHeartbeats 3200000 in
theorem readDict_any (kd : Int) (s : ByteArray) (n : Nat) (w : World) (st : TypeId) (sp : Value) (hg : w.cell? ⟨3, 0, none⟩ = some (.iface st sp)) (hs : s.size ≤ 1000000) (hn : n ≤ 20000) (hk1 : 1 ≤ kd) (hk5 : kd ≤ 5) :
    Calls Tryz.prog 16 #[.int .i64 kd, .string s, .int .i64 (n : Nat)] w fun e w' => RetRd (IsDc kd s.data.toList n) n (.iface st sp) e w' ∧ Below w.heap.size w w' := by
  have HG : Hid (w.cell? ⟨3, 0, none⟩ = some (.iface st sp)) := hg
  have HLen : Hid (s.data.toList.length = s.size) := Array.length_toList
  have h1 := readUnlike_any kd s n w st sp hg hs hn hk1 hk5
  clear hg
  go_enter Tryz.func16, Tryz.ntmps16
  go_wp2_with fail
  refine (checkCount_fine kd n w hk1 hk5 (by omega) (by omega)).mono ?_
  rintro e w1 ⟨rfl, hw⟩
  obtain rfl := hw.symm
  go_wp2_with fail
  refine h1.mono ?_
  clear h1
  rintro e w1 ⟨⟨us, u, a1, c1, hI, rfl, hl1⟩ | ⟨hI, rfl⟩, hb1⟩
  rotate_left
  · have HN : Hid (¬ ∃ vs, IsDc kd s.data.toList n vs) := fun ⟨vs, us, u, ps, h, _⟩ => hI ⟨us, u, h⟩
    clear hI
    go_wp2
    go_ret2
    exact ⟨Or.inr ⟨HN.out, rfl⟩, hb1⟩
  have HI : Hid (IsUn kd s.data.toList n us u) := hI
  have HL1 : Hid (LiesV w1 a1 us) := hl1
  have hule : u ≤ s.size := by
    obtain ⟨m, k, z, j, _, _, _, _, _, q, _, rfl⟩ := hI
    rw [HLen.out] at q
    exact q
  have hul : us.length ≤ n := by
    obtain ⟨m, k, z, j, _, _, q, _, _, _, q2, _⟩ := hI
    rw [q2.1]
    exact q
  have HIn : Hid (∀ v ∈ us, v.In) := by
    obtain ⟨m, k, z, j, _, _, q, _, _, _, q2, _⟩ := hI
    exact fun v hv => (q2.2.1.2 v hv).2
  have hg1 := (hb1.cell (World.block_lt_of_cell? w _ HG.out)).trans HG.out
  have HG1 : Hid (w1.cell? ⟨3, 0, none⟩ = some (.iface st sp)) := hg1
  clear hl1 hg1 hI
  have hxs : (s.extract u s.size).size ≤ 1000000 := by rw [ByteArray.size_extract]; omega
  have HRR : Hid (∀ W, W.cell? ⟨3, 0, none⟩ = some (.iface st sp) → Calls Tryz.prog 36 #[.string (s.extract u s.size), .int .i64 (Um.pw us.length : Nat), .int .i64 (n : Nat)] W fun e w' => RetPart (Um.runs (s.data.toList.drop u) (Um.pw us.length) n) (.iface st sp) e w' ∧ Below W.heap.size W w') := fun W hW => by
    have h := readRuns_any (s.extract u s.size) (Um.pw us.length) n W st sp hxs (Um.pw_le (by omega)) (by omega) hW
    rw [cut_list] at h
    exact h
  clear hxs
  obtain ⟨R, HR⟩ : ∃ R, Hid (R = Um.runs (s.data.toList.drop u) (Um.pw us.length) n) := ⟨_, rfl⟩
  rw [← HR.out] at HRR
  have HPW : Hid (∀ W : World, Calls Tryz.prog 37 #[.slice a1 us.length c1] W fun e w' => e = .returned (.int .i64 (Um.pw us.length : Nat)) ∧ w' = W) := fun W => placeWidth_any a1 us.length c1 W (by omega)
  cases R with
  | none =>
    have HN : Hid (¬ ∃ vs, IsDc kd s.data.toList n vs) := fun ⟨vs, us', u', ps, h, h2, _⟩ => by
      obtain ⟨rfl, rfl⟩ := isUn_fn HI.out h
      rw [← HR.out] at h2
      cases h2
    go_wp2_with fail
    go_region_with (first | (go_at_call 37; refine (HPW.out _).mono ?_; rintro e w' ⟨rfl, hw⟩; obtain rfl := hw.symm) | (go_at_call 36; refine (HRR.out w1.drew HG1.out).mono ?_; rintro e w5 ⟨rfl, hb5⟩))
    all_goals
      have hb15 : Below w.heap.size w w5 := hb1.drew.trans (hb5.mono hb1.size)
      go_wp2
      go_ret2
      exact ⟨Or.inr ⟨HN.out, rfl⟩, hb15⟩
  | some r =>
    obtain ⟨ps, z⟩ := r
    have hzl : z ≤ s.size - u := by
      have h := Um.runs_used HR.out.symm
      rw [List.length_drop, HLen.out] at h
      exact h
    have HPL : Hid (ps.length = n) := Um.runs_length HR.out.symm
    have HRE : Hid (∀ vs us' u' ps', IsUn kd s.data.toList n us' u' → Um.runs (s.data.toList.drop u') (Um.pw us'.length) n = some (ps', (s.data.toList.drop u').length) → Uq vs us' ps' → us' = us ∧ ps' = ps ∧ z = s.size - u) := fun vs us' u' ps' h h2 h3 => by
      obtain ⟨rfl, rfl⟩ := isUn_fn HI.out h
      rw [← HR.out] at h2
      simp only [Option.some.injEq, Prod.mk.injEq] at h2
      refine ⟨rfl, h2.1.symm, ?_⟩
      rw [h2.2, List.length_drop, HLen.out]
    go_wp2_with fail
    go_region_with (first | (go_at_call 37; refine (HPW.out _).mono ?_; rintro e w' ⟨rfl, hw⟩; obtain rfl := hw.symm) | (go_at_call 36; refine (HRR.out w1.drew HG1.out).mono ?_; rintro e w5 ⟨⟨a5, c5, rfl, hl5⟩, hb5⟩))
    all_goals
      have hb15 : Below w.heap.size w w5 := hb1.drew.trans (hb5.mono hb1.size)
      have HL5 : Hid (LiesV w5 a1 us) := LiesV.keep HL1.out ((Below.refl _ _).drew.trans hb5)
      have hg5 := (hb15.cell (World.block_lt_of_cell? w _ HG.out)).trans HG.out
      have HP5 : Hid (∀ j (h : j < ps.length), ∃ b o, a5 = some ⟨b, o, none⟩ ∧ w5.cell? ⟨b, o + j, none⟩ = some (.int .i64 ps[j])) := fun j h => by
        obtain ⟨b, o, e, hc⟩ := hl5 j (by simp only [i64s, List.length_map]; exact h)
        refine ⟨b, o, e, ?_⟩
        rw [hc]
        simp [i64s]
      clear hl5
      by_cases hz : u + z = s.size
      · have hne : (((u : Int) + (z : Int)) != (s.size : Int)) = false := by simp; omega
        have hat := atPlaces_any a1 a5 c1 c5 us ps w5 st sp hg5 (by rw [HPL.out]; exact hn) (by omega) HL5.out HP5.out HIn.out
        clear hg5
        go_wp2_with fail
        refine hat.mono ?_
        clear hat
        rintro e w6 ⟨⟨vs, a6, c6, hu6, rfl, hl6⟩ | ⟨hu6, rfl⟩, hb6⟩
        · have HD : Hid (IsDc kd s.data.toList n vs) := ⟨us, u, ps, HI.out, by rw [← HR.out, List.length_drop, HLen.out]; congr 2; omega, hu6⟩
          have HL6 : Hid _ := hl6
          clear hl6 hu6
          go_wp2
          go_ret2
          exact ⟨Or.inl ⟨vs, a6, c6, HD.out, by rw [HPL.out]; rfl, HL6.out⟩, hb15.trans (hb6.mono hb15.size)⟩
        · have HN : Hid (¬ ∃ vs, IsDc kd s.data.toList n vs) := fun ⟨vs, us', u', ps', h, h2, h3⟩ => by
            obtain ⟨rfl, rfl, _⟩ := HRE.out vs us' u' ps' h h2 h3
            exact hu6 ⟨vs, h3⟩
          clear hu6
          go_wp2
          go_ret2
          exact ⟨Or.inr ⟨HN.out, rfl⟩, hb15.trans (hb6.mono hb15.size)⟩
      · have hne : (((u : Int) + (z : Int)) != (s.size : Int)) = true := by simp; omega
        have HN : Hid (¬ ∃ vs, IsDc kd s.data.toList n vs) := fun ⟨vs, us', u', ps', h, h2, h3⟩ => by
          obtain ⟨rfl, rfl, hq⟩ := HRE.out vs us' u' ps' h h2 h3
          omega
        clear hz
        go_wp2
        go_region
        all_goals (try go_wp2)
        all_goals go_ret2
        all_goals exact ⟨Or.inr ⟨HN.out, rfl⟩, hb15.drew⟩
end Go.Proofs.YtmhkpnmifhfboaaGreatDoor
