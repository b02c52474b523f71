/-
  The reference's PrefixOf: texts by what they have in common with the one ahead.
-/
import Derived.Test.YteeheodcejeloaaGreatDoorRBPref
import Derived.Test.YteeheodcejeloaaGreatDoorRBRd
import Derived.Deep.RegionHeld3
namespace Go.Proofs.YteeheodcejeloaaGreatDoor
open Go.RowKit
theorem below_t {B : Nat} {w1 W W' : World} (h : Below B w1 W) (hB : B ≤ w1.heap.size) (hb : Below W.heap.size W W') : Below B w1 W' := h.trans (hb.mono (Nat.le_trans hB h.size))
set_option maxRecDepth 100000 in
set_option maxHeartbeats 3200000 in
theorem prefixOf_any (a : Option Addr) (ts : List ByteArray) (c : Nat) (w : World) (hn : ts.length ≤ 20000) (hl : LiesS w a ts) (hx : ∀ t ∈ ts, t.size ≤ 100) :
    Calls Tryz.prog 92 #[.slice a ts.length c] w fun e w' => e = .returned (.string (mk (Um.prefs [] (bys ts)))) ∧ Below w.heap.size w w' := by
  have HL : Hid (LiesS w a ts) := hl
  have HX : Hid (∀ t ∈ ts, t.size ≤ 100) := hx
  clear hl hx
  go_enter Tryz.func92, Tryz.ntmps92
  go_wp2
  go_loopw [3, 4, 5] (fun o h x wr => ∃ i : Nat, i ≤ ts.length ∧ x = .int .i64 i ∧ h = .string (mk (Um.ahd (bys ts) i)) ∧ (Um.ahd (bys ts) i).length ≤ 100 ∧ o = .string (mk (Um.prefs [] ((bys ts).take i))) ∧ Below w.heap.size w wr) (fun _ _ x _ => ts.length - (intOf x).toNat)
  case atStart => exact ⟨0, Nat.zero_le _, rfl, by rw [Um.ahd_zero]; rfl, by rw [Um.ahd_zero]; simp, rfl, Below.refl _ _⟩
  case round =>
    obtain ⟨i, hik, rfl, rfl, hah, rfl, hb⟩ := hrel
    have hnl : (Um.prefs [] ((bys ts).take i)).length ≤ 120 * 20000 := by
      refine Nat.le_trans (Um.prefs_len _ [] (by simp) (fun s hs => bys_le HX.out s (List.mem_of_mem_take hs))) (Nat.mul_le_mul_left _ ?_)
      rw [List.length_take]; omega
    by_cases hlt : i < ts.length
    · obtain ⟨b, o, rfl, hc⟩ := (HL.out.keep hb) i hlt
      have hsl := HX.out _ (List.getElem_mem hlt)
      have HN : Hid (Um.prefs [] ((bys ts).take (i + 1)) = Um.prefs [] ((bys ts).take i) ++ Um.one (Um.ahd (bys ts) i) ts[i].data.toList) := by
        show _ = _
        rw [Um.prefs_take (bys ts) i (by rw [bys_len]; exact hlt), bys_at ts i hlt]
      have HA : Hid (Um.ahd (bys ts) (i + 1) = ts[i].data.toList) := by
        show _ = _
        rw [Um.ahd_succ (bys ts) i (by rw [bys_len]; exact hlt), bys_at ts i hlt]
      have HC : Hid (∀ W, Below w.heap.size w W → W.cell? ⟨b, o + i, none⟩ = some (.string ts[i])) := fun W hW => by
        obtain ⟨b', o', e, h⟩ := (HL.out.keep hW) i hlt
        have e := Option.some.inj e
        simp only [Addr.mk.injEq, and_true] at e
        rw [e.1, e.2]
        exact h
      rw [← mk_size] at hnl hah
      generalize hoo : mk (Um.prefs [] ((bys ts).take i)) = oo at *
      have HOO : Hid (mk (Um.prefs [] ((bys ts).take i)) = oo) := hoo
      generalize haa : mk (Um.ahd (bys ts) i) = ah at *
      have HAA : Hid (mk (Um.ahd (bys ts) i) = ah) := haa
      clear hoo haa
      generalize ts[i] = t at *
      go_wp2
      clear hc
      go_loopw [6] (fun y wr => ∃ k : Nat, k ≤ ah.size ∧ k ≤ t.size ∧ y = .int .i64 k ∧ Hid (ah.data.toList.take k = t.data.toList.take k) ∧ Below w.heap.size w wr) (fun y _ => t.size - (intOf y).toNat)
      case atStart => exact ⟨0, Nat.zero_le _, Nat.zero_le _, rfl, rfl, hb⟩
      case round =>
        clear hb
        obtain ⟨k, h1, h2, rfl, HT, hb⟩ := hrel
        have hc := HC.out _ hb
        by_cases hgo : ∃ (h1 : k < ah.size) (h2 : k < t.size), t[k].toNat = ah[k].toNat
        · obtain ⟨hk1, hk2, he⟩ := hgo
          have g1 : ah.data.toList[k]? = some ah[k] := by rw [Array.getElem?_toList]; exact Array.getElem?_eq_getElem hk1
          have g2 : t.data.toList[k]? = some t[k] := by rw [Array.getElem?_toList]; exact Array.getElem?_eq_getElem hk2
          have HT2 : Hid (ah.data.toList.take (k + 1) = t.data.toList.take (k + 1)) := by
            show _ = _
            rw [List.take_add_one, List.take_add_one, HT.out, g1, g2, UInt8.toNat_inj.1 he]
          clear g1 g2
          go_wp2
          go_quiet (fail)
          go_wp2
          go_roundw
          case rel => exact ⟨k + 1, by omega, by omega, by go_num, HT2, below_dN hb _⟩
          case measure => simp [intOf]; omega
        · have hcase : (∃ (hk1 : k < ah.size) (hk2 : k < t.size), ¬ t[k].toNat = ah[k].toNat) ∨ (k < t.size ∧ ¬ k < ah.size) ∨ ¬ k < t.size := by
            by_cases hk2 : k < t.size
            · by_cases hk1 : k < ah.size
              · exact Or.inl ⟨hk1, hk2, fun h => hgo ⟨hk1, hk2, h⟩⟩
              · exact Or.inr (Or.inl ⟨hk2, hk1⟩)
            · exact Or.inr (Or.inr hk2)
          have HE : Hid (Um.lcp ah.data.toList t.data.toList = k) := Um.lcp_eq _ _ k (by rw [Array.length_toList]; exact h1) (by rw [Array.length_toList]; exact h2) HT.out (by
            rw [Array.length_toList, Array.length_toList]
            change k = ah.size ∨ k = t.size ∨ _
            rcases hcase with ⟨hk1, hk2, hne⟩ | ⟨_, h⟩ | h
            · right; right
              rw [Array.getElem?_toList, Array.getElem?_toList, Array.getElem?_eq_getElem (show k < ah.data.size from hk1), Array.getElem?_eq_getElem (show k < t.data.size from hk2)]
              intro e
              exact hne (by rw [show t[k] = ah[k] from (Option.some.inj e).symm])
            · left; omega
            · right; left; omega)
          clear hgo
          have hul := Um.uv_ten (n := k) (by omega)
          have hxs : (t.extract k t.size).size ≤ 100 := by rw [ByteArray.size_extract]; omega
          have hll := (Um.uv_ten (n := (t.extract k t.size).size) (by omega))
          have HQ : Hid (oo ++ ⟨(Um.uv k).toArray⟩ ++ (⟨(Um.uv (t.extract k t.size).size).toArray⟩ ++ t.extract k t.size) = mk (Um.prefs [] ((bys ts).take (i + 1)))) := by
            show _ = _
            have h3 := tail_bytes t k
            generalize (⟨(Um.uv (t.extract k t.size).size).toArray⟩ : ByteArray) ++ t.extract k t.size = x at h3 ⊢
            have hx : x = mk (Um.txt (t.data.toList.drop k)) := by rw [← h3, mk_bytes]
            rw [hx, ← HOO.out, HN.out]
            have ha : Um.ahd (bys ts) i = ah.data.toList := by rw [← HAA.out, mk_list]
            rw [ha, Um.one, HE.out]
            unfold mk
            rw [arr_cat, arr_cat, List.append_assoc]
          have HSev : Hid (∀ W : World, Calls Tryz.prog 140 #[.int .u64 k] W fun e w' => e = .returned (.string ⟨(Um.uv k).toArray⟩) ∧ Below W.heap.size W w') := fun W => seven_any k W (by omega)
          have HLon : Hid (∀ W : World, Calls Tryz.prog 136 #[.string (t.extract k t.size)] W fun e w' => e = .returned (.string (⟨(Um.uv (t.extract k t.size).size).toArray⟩ ++ t.extract k t.size)) ∧ Below W.heap.size W w') := fun W => long_any _ W (by omega)
          have hu1 : (⟨(Um.uv k).toArray⟩ : ByteArray).size ≤ 10 := by rw [show (⟨(Um.uv k).toArray⟩ : ByteArray).size = (Um.uv k).length from mk_size _]; exact hul
          have hu2 : ((⟨(Um.uv (t.extract k t.size).size).toArray⟩ : ByteArray) ++ t.extract k t.size).size ≤ 110 := by
            rw [ByteArray.size_append, show (⟨(Um.uv (t.extract k t.size).size).toArray⟩ : ByteArray).size = (Um.uv (t.extract k t.size).size).length from mk_size _]; omega
          generalize (⟨(Um.uv k).toArray⟩ : ByteArray) = u1 at HQ HSev hu1
          generalize (⟨(Um.uv (t.extract k t.size).size).toArray⟩ : ByteArray) ++ t.extract k t.size = u2 at HQ HLon hu2
          clear hul hxs hll
          have hc1 : ∀ W : World, (Op.stringOp .add oo u1).run Tryz.prog W = .ok (.string (oo ++ u1)) W := fun W => run_string_add_sum _ _ _ (by omega)
          have hc2 : ∀ W : World, (Op.stringOp .add (oo ++ u1) u2).run Tryz.prog W = .ok (.string (oo ++ u1 ++ u2)) W := fun W => run_string_add_sum _ _ _ (by rw [ByteArray.size_append]; omega)
          have hwk : IntKind.u64.wrap (k : Int) = k := by rw [IntKind.wrap_u64]; omega
          rcases hcase with ⟨hk1, hk2, hne⟩ | ⟨hk2, hk1⟩ | hk2
          all_goals
            go_wp2
            go_quiet (fail)
            go_wp2_with fail
            have bN := below_dN hb nq
            have HS : Hid (∀ W, Below w.heap.size w W → W.cell? ⟨b, o + i, none⟩ = some (.string t) ∧ Below w.heap.size w W) := fun W hW => ⟨HC.out W hW, hW⟩
            go_region_held3 (fun W => W.cell? ⟨b, o + i, none⟩ = some (.string t) ∧ Below w.heap.size w W)
              (first | (refine HS.out _ ?_; assumption) | (refine HS.out _ ?_; exact bN.drew) | (refine HS.out _ (below_t ?_ (Nat.le_refl _) hb'); assumption) | (refine HS.out _ (below_t ?_ (Nat.le_refl _) hb'); exact bN.drew) | (refine HS.out _ (below_t ?_ (Nat.le_refl _) hb'); exact And.right (by assumption)))
              (first | (go_at_call 140; refine (HSev.out _).mono ?_; rintro e w' ⟨rfl, hb'⟩) | (go_at_call 136; refine (HLon.out _).mono ?_; rintro e w' ⟨rfl, hb'⟩))
            all_goals
              obtain ⟨hcc, hbb⟩ := ‹_ ∧ Below w.heap.size w _›
              clear hc1 hc2
              go_wp2
              go_roundw
              case rel => exact ⟨i + 1, by omega, by go_num, by rw [HA.out, mk_bytes], by rw [HA.out, Array.length_toList]; exact hsl, by rw [HQ.out], hbb⟩
              case measure => simp [intOf]; omega
    · obtain rfl : i = ts.length := by omega
      have e : (bys ts).take ts.length = bys ts := by rw [← bys_len, List.take_length]
      rw [e]
      clear e
      go_wp2
      go_ret
      exact ⟨rfl, hb⟩
end Go.Proofs.YteeheodcejeloaaGreatDoor
