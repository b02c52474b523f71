/-
  data.Text: one datum; the text of a right record.
  The law's bit: the text of a record of one Bool.
-/
import Derived.Test.YtmfijliladancaaGreatDoorXBtB
import Derived.Test.YtmfijliladancaaGreatDoorXBChkG
namespace Go.Proofs.YtmfijliladancaaGreatDoor
open Go.RowKit
/-- A Bool's word. -/
def boolB (n : Int) : List UInt8 := if n = 0 then [102, 97, 108, 115, 101] else [116, 114, 117, 101]
theorem boolB_le (n : Int) : (boolB n).length ≤ 5 := by unfold boolB; split <;> decide
set_option maxRecDepth 100000 in
set_option maxHeartbeats 1600000 in
theorem appendOne_grp {K : Nat → World → Prop} (hK : ∀ (N : Nat) (X Y : World), K N X → Below N X Y → K N Y) (t : Tr) (d : Dt) (hk : t.kind = 0) (hsl : t.sub.length ≤ 1048576) (us : List (List UInt8)) (hlen : d.f.length = t.sub.length) (hul : us.length = t.sub.length) (each : ∀ j (h : j < t.sub.length) (h' : j < d.f.length) (h2 : j < us.length), TxP K t.sub[j] d.f[j] us[j]) : TxO K t d (gT t.sub us t.sub.length ++ [125]) := fun b l N ta tc al cl af cf W hN hl hb hlt hdl hdf hkk => by
  obtain ⟨w0, HW0, HX, HY, HB⟩ := two_boxesS W #[.int .i64 t.id, .string t.nm, .int .i64 t.rep, .int .i64 t.kind, .slice ta t.sub.length tc] #[.bool d.no, .int .i64 d.v.k, .int .i64 d.v.n, .string d.v.s, .slice al d.l.length cl, .slice af d.f.length cf] 24 29
  have hsz := HB.out.size
  have hA := (ApR.start hb).next hN HB.out
  have HA : Hid (ApR W N l b w0) := hA
  rw [List.length_append] at hl
  have HC : Hid _ := appendGroup_of hK t hsl d.f us hlen hul each b l N ta tc af cf w0 (by omega) (by simp at hl; omega) hA.row (hlt.keep HB.out) (hdf.keep HB.out) (hK N W w0 hkk (HB.out.mono hN))
  obtain ⟨⟨p0, p1, p2, p3, p4⟩, _⟩ := row_five HX.out
  obtain ⟨z0, z1, z2, z3, z4, z5⟩ := row_six HY.out
  have q : (t.kind == 0) = true := by simp [hk]
  obtain ⟨u, HU⟩ := hid_name (gT t.sub us t.sub.length ++ [125])
  rw [HU.out] at HC ⊢
  clear hb hlt hdl hdf hA hlen hul each hk hl
  unfold nodeV datumV
  go_enter Tryz.func24, Tryz.ntmps24
  go_upto_region 1 with fail
  rw [HW0.out]
  go_wp2_with fail
  refine Calls.mono HC.out ?_
  rintro e w1 ⟨b1, rfl, ha1⟩
  have HA1 : Hid _ := HA.out.go ha1
  clear ha1
  go_wp2
  go_ret
  exact ⟨b1, rfl, HA1.out⟩
set_option maxRecDepth 100000 in
set_option maxHeartbeats 1600000 in
theorem appendOne_bool {K : Nat → World → Prop} (t : Tr) (d : Dt) (hk : t.kind = 1) (hv : d.v.k = 1) : TxO K t d (boolB d.v.n) := fun b l N ta tc al cl af cf W hN hl hb hlt hdl hdf hkk => by
  obtain ⟨w0, HW0, HX, HY, HB⟩ := two_boxesS W #[.int .i64 t.id, .string t.nm, .int .i64 t.rep, .int .i64 t.kind, .slice ta t.sub.length tc] #[.bool d.no, .int .i64 d.v.k, .int .i64 d.v.n, .string d.v.s, .slice al d.l.length cl, .slice af d.f.length cf] 24 29
  have hsz := HB.out.size
  have hA := (ApR.start hb).next hN HB.out
  have HA : Hid (ApR W N l b w0) := hA
  have HC : Hid (Calls Tryz.prog 39 #[b, .agg #[.int .i64 d.v.k, .int .i64 d.v.n, .string d.v.s]] w0 fun e w' => ∃ b', e = .returned b' ∧ ApR w0 N (l ++ boolB d.v.n) b' w') := by rw [hv]; exact appendBool_any b l d.v.n d.v.s N w0 (by omega) (by omega) hA.row
  obtain ⟨⟨p0, p1, p2, p3, p4⟩, _⟩ := row_five HX.out
  obtain ⟨z0, z1, z2, z3, z4, z5⟩ := row_six HY.out
  have q : (t.kind == 0) = false := by simp [hk]
  obtain ⟨u, HU⟩ := hid_name (boolB d.v.n)
  rw [HU.out] at HC ⊢
  clear hb hlt hdl hdf hA hk hl hv
  unfold nodeV datumV
  go_enter Tryz.func24, Tryz.ntmps24
  go_upto_region 1 with fail
  rw [HW0.out]
  go_wp2_with fail
  refine Calls.mono HC.out ?_
  rintro e w1 ⟨b1, rfl, ha1⟩
  have HA1 : Hid _ := HA.out.go ha1
  clear ha1
  go_wp2
  go_ret
  exact ⟨b1, rfl, HA1.out⟩
set_option maxRecDepth 100000 in
set_option maxHeartbeats 1600000 in
/-- appendNode of what is there, and no list. -/
theorem appendNode_one {K : Nat → World → Prop} (hK : ∀ (N : Nat) (X Y : World), K N X → Below N X Y → K N Y) (t : Tr) (d : Dt) (u : List UInt8) (h3 : t.rep ≠ 3) (hno : d.no = false) (h : TxO K t d u) : TxP K t d u := fun b l N ta tc al cl af cf W hN hl hb hlt hdl hdf hkk => by
  unfold nodeV datumV
  rw [hno]
  obtain ⟨w0, HW0, HX, HY, HB⟩ := two_boxesS W #[.int .i64 t.id, .string t.nm, .int .i64 t.rep, .int .i64 t.kind, .slice ta t.sub.length tc] #[.bool false, .int .i64 d.v.k, .int .i64 d.v.n, .string d.v.s, .slice al d.l.length cl, .slice af d.f.length cf] 24 29
  have hsz := HB.out.size
  have hA := (ApR.start hb).next hN HB.out
  have HA : Hid (ApR W N l b w0) := hA
  have hc := h b l N ta tc al cl af cf w0 (by omega) hl hA.row (hlt.keep HB.out) (hdl.keep HB.out) (hdf.keep HB.out) (hK N W w0 hkk (HB.out.mono hN))
  unfold nodeV datumV at hc
  rw [hno] at hc
  have HC : Hid _ := hc
  obtain ⟨⟨p0, p1, p2, p3, p4⟩, _⟩ := row_five HX.out
  obtain ⟨z0, z1, z2, z3, z4, z5⟩ := row_six HY.out
  have q : (t.rep == 3) = false := by simp [h3]
  clear hb hlt hdl hdf hA hl h3 hno hc h
  go_enter Tryz.func14, Tryz.ntmps14
  go_upto_region 1 with fail
  rw [HW0.out]
  go_wp2_with fail
  refine Calls.mono HC.out ?_
  rintro e w1 ⟨b1, rfl, ha1⟩
  have HA1 : Hid _ := HA.out.go ha1
  clear ha1
  go_wp2
  go_ret
  exact ⟨b1, rfl, HA1.out⟩
set_option maxRecDepth 100000 in
set_option maxHeartbeats 1600000 in
/-- data.Text of a right record. -/
theorem dataText_right {K : Nat → World → Prop} (eb es ek en : TypeId × Value) (t : Tr) (d : Dt) (u : List UInt8) (n : Nat) (hd : t.Dp n) (hn : n ≤ 1100000) (hs : t.Sm) (hds : d.Sm) (hv : vldN t = 0) (hck : chk false t d = 0) (hu : u.length ≤ 1048576) (h : TxP K t d u) (P Q : Nat → Prop) (a : Option Addr) (c : Nat) (hcap : t.sub.length ≤ c) (al : Option Addr) (cl : Nat) (af : Option Addr) (cf : Nat) (W : World) (he : EC W eb es ek) (hen : W.cell? ⟨3, 0, none⟩ = some (.iface en.1 en.2)) (hl : LiesN W P a t.sub) (hd1 : LiesD W Q al d.l) (hd2 : LiesD W Q af d.f) (hkk : ∀ X, Below W.heap.size W X → K X.heap.size X) :
    Calls Tryz.prog 7 #[nodeV t a c, datumV d al cl af cf] W fun e w' => e = .returned (.tuple #[.string ⟨u.toArray⟩, .nilIface]) ∧ Below W.heap.size W w' := by
  obtain ⟨w0, HW0, HX, HY, HB⟩ := two_boxesS W #[.int .i64 t.id, .string t.nm, .int .i64 t.rep, .int .i64 t.kind, .slice a t.sub.length c] #[.bool d.no, .int .i64 d.v.k, .int .i64 d.v.n, .string d.v.s, .slice al d.l.length cl, .slice af d.f.length cf] 24 29
  have hsz := HB.out.size
  have hcc := checkD_right eb es ek en t d n hd hn hs hds hv P Q a c hcap al cl af cf w0 (he.keep HB.out) ((HB.out.cell (World.block_lt_of_cell? W _ hen)).trans hen) (hl.keep HB.out) (hd1.keep HB.out) (hd2.keep HB.out)
  rw [hck] at hcc
  have HCk : Hid _ := hcc
  have HL : Hid (LiesN W P a t.sub) := hl
  have HD1 : Hid (LiesD W Q al d.l) := hd1
  have HD2 : Hid (LiesD W Q af d.f) := hd2
  have HTx : Hid (TxP K t d u) := h
  have HKK : Hid (∀ X, Below W.heap.size W X → K X.heap.size X) := hkk
  obtain ⟨⟨p0, p1, p2, p3, p4⟩, _⟩ := row_five HX.out
  obtain ⟨z0, z1, z2, z3, z4, z5⟩ := row_six HY.out
  clear hl hd1 hd2 h hkk he hen hcc hd hs hds hv hck
  unfold nodeV datumV at *
  go_enter Tryz.func7, Tryz.ntmps7
  go_upto_region 1 with fail
  rw [HW0.out]
  go_wp2_with fail
  refine Calls.mono HCk.out ?_
  rintro e w1 ⟨rfl, hb1⟩
  have HB1 : Hid (Below W.heap.size W w1) := HB.out.trans (hb1.mono hsz)
  have hsz1 := HB1.out.size
  obtain ⟨⟨p0, p1, p2, p3, p4⟩, _⟩ := row_five (blk_keep hb1 HX.out)
  obtain ⟨z0, z1, z2, z3, z4, z5⟩ := row_six (blk_keep hb1 HY.out)
  have hC := HTx.out (.slice none 0 0) [] w1.heap.size a c al cl af cf w1 (Nat.le_refl _) (by simpa using hu) (World.ownsRow_nil _ _ _ _) ((HL.out.keep HB1.out).stay (fun k _ h => h) (fun _ _ _ => rfl)) ((HD1.out.keep HB1.out).stay (fun k _ h => h) (fun _ _ _ => rfl)) ((HD2.out.keep HB1.out).stay (fun k _ h => h) (fun _ _ _ => rfl)) (HKK.out w1 HB1.out)
  unfold nodeV datumV at hC
  have HC : Hid _ := hC
  clear hC hb1 HCk
  rw [show erV eb es ek 0 = Value.nilIface from rfl]
  go_wp2_with fail
  refine Calls.mono HC.out ?_
  rintro e w2 ⟨b2, rfl, ha2⟩
  have hcv := ow_conv rfl ha2.row
  rw [List.nil_append] at hcv
  have HB2 : Hid (Below W.heap.size W w2) := HB1.out.trans (ha2.old.mono hsz1)
  clear ha2
  go_wp2
  go_ret2
  exact ⟨rfl, HB2.out⟩
end Go.Proofs.YtmfijliladancaaGreatDoor

namespace Go.Proofs.YtmfijliladancaaGreatDoor
open Go.RowKit
def btX : Tr := .node 1 ⟨#[97]⟩ 1 1 []
def btT : Tr := .node 0 ⟨#[114, 111, 111, 116]⟩ 1 0 [btX]
def btV : Dt := .mk false ⟨1, 1, ⟨#[]⟩⟩ [] []
def btD : Dt := .mk false ⟨0, 0, ⟨#[]⟩⟩ [] [btV]
theorem bt_valid : vldN btT = 0 := by decide +kernel
theorem bt_check : chk false btT btD = 0 := by decide +kernel
theorem bt_sm : btD.Sm := by
  refine .mk _ _ _ _ (by decide) (by decide) (by decide) (fun j h => absurd h (by simp)) (fun j h => ?_)
  obtain rfl : j = 0 := by simp at h; omega
  exact .mk _ _ _ _ (by decide) (by decide) (by decide) (fun j h => absurd h (by simp)) (fun j h => absurd h (by simp))
theorem bt_smT : btT.Sm := by
  refine .mk _ _ _ _ _ (by omega) (by decide) (by decide) (fun j h => ?_)
  obtain rfl : j = 0 := by simp at h; omega
  exact .mk _ _ _ _ _ (by omega) (by decide) (by decide) (fun j h => absurd h (by simp))
theorem bt_dp : btT.Dp 2 := by
  refine .mk 1 _ _ _ _ _ (fun j h => ?_)
  obtain rfl : j = 0 := by simp at h; omega
  exact .mk 0 _ _ _ _ _ (fun j h => absurd h (by simp))
/-- The record's text. -/
def btU : List UInt8 := gT [btX] [boolB 1] 1 ++ [125]
theorem btU_eq : (⟨btU.toArray⟩ : ByteArray) = ⟨#[123, 97, 58, 116, 114, 117, 101, 125]⟩ := by rfl
theorem btU_len : btU.length ≤ 1048576 := by decide
theorem bt_tx : TxP (fun _ _ => True) btT btD btU := by
  refine appendNode_one (fun _ _ _ _ _ => trivial) btT btD btU (by decide) rfl ?_
  refine appendOne_grp (fun _ _ _ _ _ => trivial) btT btD rfl (by decide) [boolB 1] rfl rfl (fun j h h' h2 => ?_)
  have hj : j = 0 := by
    have : j < 1 := h2
    omega
  subst hj
  exact appendNode_one (fun _ _ _ _ _ => trivial) btX btV (boolB 1) (by decide) rfl (appendOne_bool btX btV rfl rfl)
set_option maxRecDepth 100000 in
set_option maxHeartbeats 1600000 in
theorem bit_any (eb es ek en : TypeId × Value) (W : World) (he : EC W eb es ek) (hen : W.cell? ⟨3, 0, none⟩ = some (.iface en.1 en.2)) :
    Calls Tryz.prog 4 #[] W fun e w' => e = .returned (.bool true) ∧ Below W.heap.size W w' := by
  obtain ⟨w0, HW0, HX, HY, HZ, HB, HSz⟩ := three_boxesS W #[.int .i64 1, .string ⟨#[97]⟩, .int .i64 1, .int .i64 1, .slice none 0 0] #[.int .i64 0, .string ⟨#[114, 111, 111, 116]⟩, .int .i64 1, .int .i64 0, .slice (some ⟨W.heap.size, 0, none⟩) 1 1] #[.bool false, .int .i64 1, .int .i64 1, .string ⟨#[]⟩, .slice none 0 0, .slice none 0 0] 24 24 29
  have hl : LiesN w0 (fun _ => True) (some ⟨W.heap.size, 0, none⟩) btT.sub := by
    obtain ⟨⟨c0, c1, c2, c3, c4⟩, _⟩ := row_five HX.out
    refine ⟨fun _ => [.int .i64 1, .string ⟨#[97]⟩, .int .i64 1, .int .i64 1, .slice none 0 0], fun j hj => ?_, fun j hj => ?_⟩
    · obtain rfl : j = 0 := by simp [btT, Tr.sub] at hj; omega
      exact ⟨W.heap.size, 0, _, _, _, _, _, rfl, trivial, rfl, c0, c1, c2, c3, c4⟩
    · obtain rfl : j = 0 := by simp [btT, Tr.sub] at hj; omega
      exact .mk 1 ⟨#[97]⟩ 1 1 [] none 0 (by simp) (fun _ => []) (fun j h => absurd h (by simp)) (fun j h => absurd h (by simp))
  have hz : LiesD w0 (fun _ => True) none [] := ⟨fun _ => [], fun j hj => absurd hj (by simp), fun j hj => absurd hj (by simp)⟩
  have hf : LiesD w0 (fun _ => True) (some ⟨W.heap.size + 1 + 1, 0, none⟩) btD.f := by
    obtain ⟨c0, c1, c2, c3, c4, c5⟩ := row_six HZ.out
    refine ⟨fun _ => [.bool false, .int .i64 1, .int .i64 1, .string ⟨#[]⟩, .slice none 0 0, .slice none 0 0], fun j hj => ?_, fun j hj => ?_⟩
    · obtain rfl : j = 0 := by simp [btD, Dt.f] at hj; omega
      exact ⟨W.heap.size + 1 + 1, 0, _, _, _, _, _, _, rfl, trivial, rfl, c0, c1, c2, c3, c4, c5⟩
    · obtain rfl : j = 0 := by simp [btD, Dt.f] at hj; omega
      exact DtC.join (d := btV) 0 0 hz hz
  have HS : Hid (Calls Tryz.prog 7 #[.agg #[.int .i64 0, .string ⟨#[114, 111, 111, 116]⟩, .int .i64 1, .int .i64 0, .slice (some ⟨W.heap.size, 0, none⟩) 1 1], .agg #[.bool false, .int .i64 0, .int .i64 0, .string ⟨#[]⟩, .slice none 0 0, .slice (some ⟨W.heap.size + 1 + 1, 0, none⟩) 1 1]] w0 fun e w' => e = .returned (.tuple #[.string ⟨#[123, 97, 58, 116, 114, 117, 101, 125]⟩, .nilIface]) ∧ Below w0.heap.size w0 w') := by
    rw [← btU_eq]
    exact dataText_right eb es ek en btT btD btU 2 bt_dp (by omega) bt_smT bt_sm bt_valid bt_check btU_len bt_tx _ _ (some ⟨W.heap.size, 0, none⟩) 1 (by decide) none 0 (some ⟨W.heap.size + 1 + 1, 0, none⟩) 1 w0 (he.keep HB.out) ((HB.out.cell (World.block_lt_of_cell? W _ hen)).trans hen) hl hz hf (fun _ _ => trivial)
  clear he hen hl hz hf
  go_enter Tryz.func4, Tryz.ntmps4
  go_wp2_with fail
  rw [HW0.out]
  refine Calls.mono HS.out ?_
  rintro e w1 ⟨rfl, hb1⟩
  have HB1 : Hid (Below W.heap.size W w1) := HB.out.trans (hb1.mono HB.out.size)
  clear hb1
  go_wp2
  go_ret
  exact ⟨rfl, HB1.out⟩
end Go.Proofs.YtmfijliladancaaGreatDoor
