/-
  enc.ReadDict of what Dict writes.
-/
import Derived.Test.YtjchkhdmjbojjaaDoorLBDictMath
import Derived.Test.YtjchkhdmjbojjaaDoorLBDict
import Derived.Test.YtjchkhdmjbojjaaDoorLBReadPart
namespace Go.Proofs.YtjchkhdmjbojjaaDoor
open Go.RowKit
theorem nats_pints (ps : List Nat) : nats (pints ps) = ps := by
  unfold nats pints
  rw [List.map_map]
  refine (List.map_congr_left (fun x _ => ?_)).trans (List.map_id _)
  simp
theorem runs_back {vs us : List Vl} {ps : List Nat} (h : Uq vs us ps) (hn : vs.length ≤ 300) : Um.runs (Um.wrs (Um.pw us.length) [] (pints ps)) (Um.pw us.length) ps.length = some (ps, (Um.wrs (Um.pw us.length) [] (pints ps)).length) := by
  have hlen := h.len
  have hr := Um.wrs_read (Um.pw us.length) (pints ps).length [] (pints ps) [] (Nat.le_refl _) (Or.inr rfl) (fun x hx => by simp [nats] at hx) (nats_lt (pints_room h (by omega))) (by rw [pints_len]; simp; omega)
  rw [List.append_nil, List.nil_append, List.length_nil, Nat.zero_add, nats_pints, pints_len] at hr
  exact hr
set_option maxRecDepth 100000 in
set_option maxHeartbeats 3200000 in
theorem readDict_right (kd : Int) (s : ByteArray) (vs us : List Vl) (ps : List Nat) (w : World) (st : TypeId) (sp : Value) (hg : w.cell? ⟨0, 0, none⟩ = some (.iface st sp)) (hs : s.size ≤ 1000000) (hn : vs.length ≤ 300) (hu : Uq vs us ps) (hR : Right kd vs) (he : s.data.toList = dictB kd us ps) :
    Calls Tryd.prog 17 #[.int .i64 kd, .string s, .int .i64 (vs.length : Nat)] w fun e w' => (∃ a c, e = .returned (.tuple #[.slice a vs.length c, .nilIface]) ∧ LiesV w' a vs) ∧ Below w.heap.size w w' := by
  have HU : Hid (Uq vs us ps) := hu
  have HR : Hid (Right kd vs) := hR
  have HG : Hid _ := hg
  have hlen := hu.len
  obtain ⟨wl, HWL⟩ : ∃ wl, Hid (wl = Um.wrs (Um.pw us.length) [] (pints ps)) := ⟨_, rfl⟩
  obtain ⟨u, HUu⟩ : ∃ u, Hid (u = (Um.uv us.length ++ Um.txt (plainB kd us)).length) := ⟨_, rfl⟩
  have he2 : s.data.toList = Um.uv us.length ++ Um.txt (plainB kd us) ++ wl := by rw [he, HWL.out]; rfl
  have HRL := readUnlike_right kd s vs.length us wl w st sp hg hs (by omega) hlen.2 (right_sub hR hu.sub) he2
  rw [← HUu.out] at HRL
  have hsz : s.size = u + wl.length := by
    have h := congrArg List.length he2
    rw [Array.length_toList, List.length_append, ← HUu.out] at h
    exact h
  have HX : Hid ((s.extract u s.size).data.toList = wl) := by
    show _ = _
    rw [drop_ext, he2, HUu.out, List.drop_left]
  have HRB : Hid (Um.runs wl (Um.pw us.length) ps.length = some (ps, wl.length)) := by show _ = _; rw [HWL.out]; exact runs_back hu hn
  have hxs : (s.extract u s.size).size ≤ 1000000 := by rw [ByteArray.size_extract]; omega
  have hpl : ps.length = vs.length := hlen.1
  have HRR : Hid (∀ W, W.cell? ⟨0, 0, none⟩ = some (.iface st sp) → Calls Tryd.prog 53 #[.string (s.extract u s.size), .int .i64 (Um.pw us.length : Nat), .int .i64 (vs.length : Nat)] W fun e w' => (∃ a c, e = .returned (.tuple #[.slice a vs.length c, .int .i64 (wl.length : Nat), .nilIface]) ∧ Lies w' a (i64s (pints ps))) ∧ Below W.heap.size W w') := fun W hW => by
    have h := readRuns_any (s.extract u s.size) (Um.pw us.length) vs.length W st sp hxs (Um.pw_le (by omega)) (by omega) hW
    rw [HX.out, ← hpl, HRB.out] at h
    rw [← hpl]
    exact h
  have hul : us.length ≤ 300 := by omega
  have hle : u ≤ s.size := by omega
  have HSZ : Hid (s.size = u + wl.length) := hsz
  have hne : (((u : Int) + (wl.length : Int)) != (s.size : Int)) = false := by simp; omega
  have hww : wl.length ≤ 1000000 := by omega
  clear hu hR hg hlen he he2 hsz hpl
  go_enter Tryd.func17, Tryd.ntmps17
  go_wp2_with fail
  refine (checkCount_fine kd vs.length w HR.out.1.1 HR.out.1.2 (by omega) (by omega)).mono ?_
  rintro e w1 ⟨rfl, hw⟩
  obtain rfl := hw.symm
  go_wp2_with fail
  refine HRL.mono ?_
  clear HRL
  rintro e w1 ⟨⟨a1, c1, rfl, hl1⟩, hb1⟩
  have HL1 : Hid (LiesV w1 a1 us) := hl1
  have hg1 := (hb1.cell (World.block_lt_of_cell? w _ HG.out)).trans HG.out
  have HG1 : Hid _ := hg1
  clear hl1 hg1
  go_wp2_with fail
  have HPW : Hid (∀ W : World, Calls Tryd.prog 27 #[.slice a1 us.length c1] W fun e w' => e = .returned (.int .i64 (Um.pw us.length : Nat)) ∧ w' = W) := fun W => placeWidth_any a1 us.length c1 W (by omega)
  go_region_with (first | (go_at_call 27; refine (HPW.out _).mono ?_; rintro e w' ⟨rfl, hw⟩; obtain rfl := hw.symm) | (go_at_call 53; refine (HRR.out w1.drew HG1.out).mono ?_; rintro e w5 ⟨⟨a5, c5, rfl, hl5⟩, hb5⟩))
  all_goals
    have hb15 : Below w.heap.size w w5 := hb1.drew.trans (hb5.mono hb1.size)
    have HL5 : Hid (LiesV w5 a1 us) := LiesV.keep HL1.out ((Below.refl _ _).drew.trans hb5)
    have HP5 : Hid (∀ j (h : j < ps.length), ∃ b o, a5 = some ⟨b, o, none⟩ ∧ w5.cell? ⟨b, o + j, none⟩ = some (.int .i64 ps[j])) := fun j h => by
      obtain ⟨b, o, e, hc⟩ := hl5 j (by rw [i64s_len, pints_len]; exact h)
      refine ⟨b, o, e, ?_⟩
      rw [hc]
      simp [i64s, pints]
    clear hl5
    have hat := atPlaces_right a1 a5 c1 c5 vs us ps w5 (by omega) HU.out HL5.out HP5.out (fun v hv => (HR.out.2 v hv).2)
    rw [HU.out.len.1] at hat
    go_wp2_with fail
    refine hat.mono ?_
    clear hat
    rintro e w6 ⟨⟨a6, c6, rfl, hl6⟩, hb6⟩
    have HL6 : Hid _ := hl6
    clear hl6
    go_wp2
    go_ret2
    exact ⟨⟨a6, c6, rfl, HL6.out⟩, hb15.trans (hb6.mono hb15.size)⟩
end Go.Proofs.YtjchkhdmjbojjaaDoor
