/-
  enc.plainTexts and enc.plainBools: the bytes of texts; of numbers 0 or 1.
-/
import Derived.Test.YtjchkhdmjbojjaaDoorLPNums
import Derived.Test.YtjchkhdmjbojjaaDoorLBPackF
import Derived.Test.YtjchkhdmjbojjaaDoorLBRd2
namespace Go.Proofs.YtjchkhdmjbojjaaDoor
open Go.RowKit
theorem text_bytes (s : ByteArray) : ((⟨(Um.uv s.size).toArray⟩ : ByteArray) ++ s).data.toList = Um.txt s.data.toList := by
  rw [ByteArray.data_append, Array.toList_append]
  show _ = Um.uv s.data.toList.length ++ _
  rw [Array.length_toList]; rfl
set_option maxHeartbeats 1600000 in
set_option maxRecDepth 100000 in
theorem plainTexts_any (a : Option Addr) (vs : List Vl) (c : Nat) (w : World) (hn : vs.length ≤ 20000) (hl : LiesV w a vs) (hx : ∀ s ∈ vss vs, s.length ≤ 100) :
    Calls Tryd.prog 45 #[.slice a vs.length c] w fun e w' => e = .returned (.string ⟨(Um.txts (vss vs)).toArray⟩) ∧ Below w.heap.size w w' := by
  obtain ⟨i0, hi, hz0, hz1, hz2⟩ := info_parts Tryd.info5
  have HL : Hid (LiesV w a vs) := hl
  have HX : Hid (∀ s ∈ vss vs, s.length ≤ 100) := hx
  clear hl hx
  go_enter Tryd.func45, Tryd.ntmps45
  go_wp2
  go_loopw [3, 8] (fun b x wr => ∃ i : Nat, i ≤ vs.length ∧ x = .int .i64 i ∧ Hid (wr.ownsRow w.heap.size 5 1 b (Um.txts ((vss vs).take i)).length (cellsOf (Um.txts ((vss vs).take i)))) ∧ Below w.heap.size w wr) (fun _ x _ => vs.length - (intOf x).toNat)
  case atStart => exact ⟨0, Nat.zero_le _, rfl, World.ownsRow_nil w w.heap.size 5 1, Below.refl _ _⟩
  case round =>
    obtain ⟨i, hik, rfl, HO, hb⟩ := hrel
    generalize hwr0 : wr = wr0 at *
    by_cases hlt : i < vs.length
    · obtain ⟨b, o, rfl, hc0, hc1, hc2⟩ := (HL.out.keep hb) i hlt
      have hlv : i < (vss vs).length := by rw [vss_len]; exact hlt
      have HN : Hid (Um.txts ((vss vs).take (i + 1)) = Um.txts ((vss vs).take i) ++ Um.txt vs[i].s.data.toList) := by
        show _ = _
        rw [Um.txts_take (vss vs) i hlv]
        simp [vss]
      have hsl : vs[i].s.size ≤ 100 := by
        have h := HX.out (vss vs)[i] (List.getElem_mem hlv)
        simpa [vss] using h
      have hnl : (Um.txts ((vss vs).take i)).length ≤ 110 * 20000 := by
        refine Nat.le_trans (Um.txts_len _ (fun s hs => HX.out s (List.mem_of_mem_take hs))) (Nat.mul_le_mul_left _ ?_)
        rw [List.length_take]; omega
      have htl := Um.txt_len vs[i].s.data.toList (by rw [Array.length_toList]; show vs[i].s.size < _; omega)
      rw [Array.length_toList] at htl
      clear hlv
      generalize Um.txts ((vss vs).take i) = l at *
      generalize vs[i] = v at *
      obtain ⟨k, n, s⟩ := v
      simp only at hc0 hc1 hc2 HN hsl htl
      change (Um.txt s.data.toList).length ≤ s.size + 10 at htl
      go_wp2_with fail
      refine (text_any s _ (by omega)).mono ?_
      rintro e w1 ⟨rfl, hb1⟩
      have hob := hb.alloc hb.size (.cells #[.int .i64 k, .int .i64 n, .string s] 45)
      have hb2 := hob.trans (hb1.mono hob.size)
      have hown := ow_kept (HO.out.alloc (.cells #[.int .i64 k, .int .i64 n, .string s] 45)) hb1
      have htb := text_bytes s
      generalize (⟨(Um.uv s.size).toArray⟩ : ByteArray) ++ s = t at htb
      have hts : t.size = (Um.txt s.data.toList).length := by rw [← htb, Array.length_toList]; rfl
      obtain ⟨v', w', hr, hown', hgrow, _⟩ := Lib.run_append_own_string (P := Tryd.prog) w1 w.heap.size 76 9 76 5 i0 Tryd.underlying76 Tryd.underlying9 hi hz0 hz1 hz2 _ _ _ hown t (by unfold maxLen; omega) (by omega) hb2.size
      have hown2 := ow_str hown'
      rw [htb, ← HN.out] at hown2
      have hb3 := below_grown hb2 (Nat.le_refl _) hown hgrow
      clear hown hown' hgrow hts htb hc0 hc1 hc2
      go_wp2_with (at_builtin; refine Lib.wpList_append_run _ rfl _ _ 76 9 rfl _ _ rfl rfl _ _ hr ?_)
      go_roundw
      case rel => exact ⟨i + 1, by omega, by go_num, hown2, hb3⟩
      case measure => simp [intOf]; omega
    · obtain rfl : i = vs.length := by omega
      have ho := HO.out
      rw [← vss_len, List.take_length] at ho
      have hcv := ow_conv rfl ho
      go_wp2
      go_ret
      exact ⟨rfl, hb⟩
end Go.Proofs.YtjchkhdmjbojjaaDoor
