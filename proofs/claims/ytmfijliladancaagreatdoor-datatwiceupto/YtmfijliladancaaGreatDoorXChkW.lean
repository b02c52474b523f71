/-
  data.Check of whatever record of whatever schema.
-/
import Derived.Test.YtmfijliladancaaGreatDoorXBChkG
import Derived.Test.YtmfijliladancaaGreatDoorXBValid
import Derived.Deep.DeepCutAuto
namespace Go.Proofs.YtmfijliladancaaGreatDoor
open Go.RowKit
set_option maxRecDepth 100000 in
set_option maxHeartbeats 1600000 in
/-- data.Check of a schema that is none. -/
theorem checkD_wrong (eb es ek en : TypeId × Value) (t : Tr) (d : Dt) (n : Nat) (hd : t.Dp n) (hn : n ≤ 1100000) (hs : t.Sm) (hv : vldN t ≠ 0) (P : Nat → Prop) (a : Option Addr) (c : Nat) (hcap : t.sub.length ≤ c) (al : Option Addr) (cl : Nat) (af : Option Addr) (cf : Nat) (W : World) (he : EC W eb es ek) (hen : W.cell? ⟨3, 0, none⟩ = some (.iface en.1 en.2)) (hl : LiesN W P a t.sub) :
    Calls Tryz.prog 13 #[nodeV t a c, datumV d al cl af cf] W fun e w' => (∃ ty v, e = .returned (.iface ty v)) ∧ Below W.heap.size W w' := by
  obtain ⟨w0, HW0, HX, HY, HB⟩ := two_boxesS W #[.int .i64 t.id, .string t.nm, .int .i64 t.rep, .int .i64 t.kind, .slice a t.sub.length c] #[.bool d.no, .int .i64 d.v.k, .int .i64 d.v.n, .string d.v.s, .slice al d.l.length cl, .slice af d.f.length cf] 24 29
  obtain ⟨ty, v, hvv⟩ := vldV_wrong eb es en hv
  have HV := valid_any t n hd hn hs a c P w0 (hl.keep HB.out) hcap eb es en (he.keep HB.out).b (he.keep HB.out).s ((HB.out.cell (World.block_lt_of_cell? W _ hen)).trans hen)
  rw [hvv] at HV
  have HV : Hid _ := HV
  obtain ⟨⟨p0, p1, p2, p3, p4⟩, _⟩ := row_five HX.out
  clear he hen hl hd hs hv hvv
  unfold nodeV datumV
  go_enter Tryz.func13, Tryz.ntmps13
  go_upto_region 1 with fail
  rw [HW0.out]
  go_wp2_with fail
  refine Calls.mono HV.out ?_
  rintro e w1 ⟨rfl, hb1⟩
  have HB1 : Hid (Below W.heap.size W w1) := HB.out.trans (hb1.mono HB.out.size)
  clear hb1 p0 p1 p2 p3 p4 HV
  go_wp2
  go_ret
  exact ⟨⟨ty, v, rfl⟩, HB1.out⟩
/-- data.Check of whatever record. -/
theorem checkD_any (eb es ek en : TypeId × Value) (t : Tr) (d : Dt) (n : Nat) (hd : t.Dp n) (hn : n ≤ 1100000) (hs : t.Sm) (hds : d.Sm) (P Q : Nat → Prop) (a : Option Addr) (c : Nat) (hcap : t.sub.length ≤ c) (al : Option Addr) (cl : Nat) (af : Option Addr) (cf : Nat) (W : World) (he : EC W eb es ek) (hen : W.cell? ⟨3, 0, none⟩ = some (.iface en.1 en.2)) (hl : LiesN W P a t.sub) (hd1 : LiesD W Q al d.l) (hd2 : LiesD W Q af d.f) :
    Calls Tryz.prog 13 #[nodeV t a c, datumV d al cl af cf] W fun e w' => ((∃ ty v, e = .returned (.iface ty v)) ∨ (vldN t = 0 ∧ chk false t d = 0 ∧ e = .returned .nilIface)) ∧ Below W.heap.size W w' := by
  by_cases hv : vldN t = 0
  · refine (checkD_right eb es ek en t d n hd hn hs hds hv P Q a c hcap al cl af cf W he hen hl hd1 hd2).mono ?_
    rintro e w' ⟨rfl, hb⟩
    refine ⟨?_, hb⟩
    by_cases hc : chk false t d = 0
    · exact .inr ⟨hv, hc, by rw [hc]; rfl⟩
    · refine .inl ?_
      have hle := chk_le d false t
      unfold erV
      by_cases h1 : chk false t d = 1
      · exact ⟨eb.1, eb.2, by rw [if_pos h1]⟩
      by_cases h2 : chk false t d = 2
      · exact ⟨es.1, es.2, by rw [if_neg h1, if_pos h2]⟩
      · exact ⟨ek.1, ek.2, by rw [if_neg h1, if_neg h2, if_pos (by omega)]⟩
  · refine (checkD_wrong eb es ek en t d n hd hn hs hv P a c hcap al cl af cf W he hen hl).mono ?_
    rintro e w' ⟨h, hb⟩
    exact ⟨.inl h, hb⟩
end Go.Proofs.YtmfijliladancaaGreatDoor
