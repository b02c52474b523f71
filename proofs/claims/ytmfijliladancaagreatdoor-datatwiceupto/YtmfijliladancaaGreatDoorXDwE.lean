/-
  data.Text: the text of whatever right record.
-/
import Derived.Test.YtmfijliladancaaGreatDoorXDwD
import Derived.Test.YtmfijliladancaaGreatDoorXOwnDt
namespace Go.Proofs.YtmfijliladancaaGreatDoor
open Go.RowKit
set_option maxRecDepth 100000 in
set_option maxHeartbeats 1600000 in
theorem appendNode_list (t : Tr) (d : Dt) (h3 : t.rep = 3) (hdl : d.l.length ≤ 1048576) (us : List (List UInt8)) (hul : us.length = d.l.length) (each : ∀ j (h : j < d.l.length) (h2 : j < us.length), TxO TabK t d.l[j] us[j]) : TxP TabK t d (91 :: (lT us d.l.length ++ [93])) := fun b l N ta tc al cl af cf W hN hl hb hlt hdll hdf hkk => by
  obtain ⟨w0, HW0, HX, HY, HB⟩ := two_boxesS W #[.int .i64 t.id, .string t.nm, .int .i64 t.rep, .int .i64 t.kind, .slice ta t.sub.length tc] #[.bool d.no, .int .i64 d.v.k, .int .i64 d.v.n, .string d.v.s, .slice al d.l.length cl, .slice af d.f.length cf] 24 29
  have hsz := HB.out.size
  have hA := (ApR.start hb).next hN HB.out
  have HA : Hid (ApR W N l b w0) := hA
  simp only [List.length_cons, List.length_append, List.length_nil] at hl
  have HC : Hid _ := appendList_of t d.l hdl us hul each b l N ta tc al cl w0 (by omega) (by omega) hA.row (hlt.keep HB.out) (hdll.keep HB.out) (tabK_step N W w0 hkk (HB.out.mono hN))
  obtain ⟨⟨p0, p1, p2, p3, p4⟩, _⟩ := row_five HX.out
  obtain ⟨z0, z1, z2, z3, z4, z5⟩ := row_six HY.out
  have q : (t.rep == 3) = true := by simp [h3]
  obtain ⟨u, HU⟩ := hid_name (91 :: (lT us d.l.length ++ [93]))
  rw [HU.out] at HC ⊢
  clear hb hlt hdll hdf hA hul each h3 hl hkk
  unfold nodeV datumV
  go_enter Tryz.func14, Tryz.ntmps14
  go_upto_region 1 with fail
  rw [HW0.out]
  go_wp2_with fail
  refine Calls.mono HC.out ?_
  rintro e w1 ⟨b1, rfl, ha1⟩
  have HA1 : Hid _ := HA.out.go ha1
  clear ha1
  go_wp2
  go_ret
  exact ⟨b1, rfl, HA1.out⟩
/-- The text of whatever right datum. -/
theorem tx_any : ∀ (n : Nat) (d : Dt), SizeOf.sizeOf d < n → ∀ (t : Tr) (one : Bool), d.In → t.Sm → chk one t d = 0 → (one = true → TxO TabK t d (tx true t d)) ∧ (one = false → TxP TabK t d (tx false t d))
  | 0, d, h => absurd h (Nat.not_lt_zero _)
  | n + 1, d, hsz => fun t one hin hsm hck => by
    have hf := d.f_size
    have hl := d.l_size
    have inF := hin.ofF
    have inL := hin.ofL
    have inV := hin.val
    have hlen := hsm.len
    have hat := hsm.at_
    cases kd_of hck with
    | list l h1 h3 hl40 each =>
      subst h1
      refine ⟨fun h => absurd h (by simp), fun _ => ?_⟩
      rw [tx_eq, if_pos ⟨rfl, h3⟩]
      refine appendNode_list t (.mk false ⟨0, 0, ⟨#[]⟩⟩ l []) h3 (by show l.length ≤ 1048576; omega) (txL t l) (txL_len t l) (fun j h h2 => ?_)
      show TxO TabK t l[j] (txL t l)[j]
      rw [txL_get t l j h h2]
      exact (tx_any n l[j] (by have := hl j h; simp only [Dt.l] at this; omega) t true (inL j h) hsm (each j h)).1 rfl
    | none h1 h2 =>
      subst h1
      refine ⟨fun h => absurd h (by simp), fun _ => ?_⟩
      rw [tx_eq, if_neg (by omega), if_pos ⟨rfl, rfl⟩]
      exact appendNode_null t _ (by omega) rfl
    | group f h1 hk hfl each =>
      have hO : TxO TabK t (.mk false ⟨0, 0, ⟨#[]⟩⟩ [] f) (gT t.sub (txF t.sub f) t.sub.length ++ [125]) := by
        refine appendOne_grp tabK_step t (.mk false ⟨0, 0, ⟨#[]⟩⟩ [] f) hk hlen (txF t.sub f) hfl (txF_len t.sub f hfl) (fun j h h' h2 => ?_)
        show TxP TabK t.sub[j] f[j] (txF t.sub f)[j]
        rw [txF_get t.sub f hfl j h h' h2]
        exact (tx_any n f[j] (by have := hf j h'; simp only [Dt.f] at this; omega) t.sub[j] false (inF j h') (hat j h) (each j h h')).2 rfl
      refine ⟨fun h => ?_, fun h => ?_⟩
      · rw [tx_eq, if_neg (by simp), if_neg (by simp), if_pos hk]
        exact hO
      · subst h
        rw [tx_eq, if_neg h1, if_neg (by simp [Dt.no]), if_pos hk]
        exact appendNode_one tabK_step t _ _ (fun e => h1 ⟨rfl, e⟩) rfl hO
    | leaf v h1 hk hv ok =>
      have hO : TxO TabK t (.mk false v [] []) (vx v) := appendOne_leaf t (.mk false v [] []) hk inV ok
      refine ⟨fun h => ?_, fun h => ?_⟩
      · rw [tx_eq, if_neg (by simp), if_neg (by simp), if_neg hk]
        exact hO
      · subst h
        rw [tx_eq, if_neg h1, if_neg (by simp [Dt.no]), if_neg hk]
        exact appendNode_one tabK_step t _ _ (fun e => h1 ⟨rfl, e⟩) rfl hO
end Go.Proofs.YtmfijliladancaaGreatDoor
