/-
  enc.plainTexts and enc.plainBools: the bytes of texts; of numbers 0 or 1.
  Numbers as runs: the bytes that are written: the mathematics, without the program.
-/
import Derived.Test.YtalphknhkkcpgaaDoorHPNums
import Derived.Test.YtalphknhkkcpgaaDoorHPackF
import Derived.Test.YtalphknhkkcpgaaDoorHRefBits
import Derived.Test.YtalphknhkkcpgaaDoorHRd2
import Derived.Test.YtalphknhkkcpgaaDoorHBMath
namespace Go.Proofs.YtalphknhkkcpgaaDoor
open Go.RowKit
theorem text_bytes (s : ByteArray) : ((⟨(Um.uv s.size).toArray⟩ : ByteArray) ++ s).data.toList = Um.txt s.data.toList := by
  rw [ByteArray.data_append, Array.toList_append]
  show _ = Um.uv s.data.toList.length ++ _
  rw [Array.length_toList]; rfl
set_option maxHeartbeats 1600000 in
set_option maxRecDepth 100000 in
theorem plainTexts_any (a : Option Addr) (vs : List Vl) (c : Nat) (w : World) (hn : vs.length ≤ 20000) (hl : LiesV w a vs) (hx : ∀ s ∈ vss vs, s.length ≤ 100) :
    Calls Tryd.prog 37 #[.slice a vs.length c] w fun e w' => e = .returned (.string ⟨(Um.txts (vss vs)).toArray⟩) ∧ Below w.heap.size w w' := by
  obtain ⟨i0, hi, hz0, hz1, hz2⟩ := info_parts Tryd.info5
  have HL : Hid (LiesV w a vs) := hl
  have HX : Hid (∀ s ∈ vss vs, s.length ≤ 100) := hx
  clear hl hx
  go_enter Tryd.func37, Tryd.ntmps37
  go_wp2
  go_loopw [3, 8] (fun b x wr => ∃ i : Nat, i ≤ vs.length ∧ x = .int .i64 i ∧ Hid (wr.ownsRow w.heap.size 5 1 b (Um.txts ((vss vs).take i)).length (cellsOf (Um.txts ((vss vs).take i)))) ∧ Below w.heap.size w wr) (fun _ x _ => vs.length - (intOf x).toNat)
  case atStart => exact ⟨0, Nat.zero_le _, rfl, World.ownsRow_nil w w.heap.size 5 1, Below.refl _ _⟩
  case round =>
    obtain ⟨i, hik, rfl, HO, hb⟩ := hrel
    generalize hwr0 : wr = wr0 at *
    by_cases hlt : i < vs.length
    · obtain ⟨b, o, rfl, hc0, hc1, hc2⟩ := (HL.out.keep hb) i hlt
      have hlv : i < (vss vs).length := by rw [vss_len]; exact hlt
      have HN : Hid (Um.txts ((vss vs).take (i + 1)) = Um.txts ((vss vs).take i) ++ Um.txt vs[i].s.data.toList) := by
        show _ = _
        rw [Um.txts_take (vss vs) i hlv]
        simp [vss]
      have hsl : vs[i].s.size ≤ 100 := by
        have h := HX.out (vss vs)[i] (List.getElem_mem hlv)
        simpa [vss] using h
      have hnl : (Um.txts ((vss vs).take i)).length ≤ 110 * 20000 := by
        refine Nat.le_trans (Um.txts_len _ (fun s hs => HX.out s (List.mem_of_mem_take hs))) (Nat.mul_le_mul_left _ ?_)
        rw [List.length_take]; omega
      have htl := Um.txt_len vs[i].s.data.toList (by rw [Array.length_toList]; show vs[i].s.size < _; omega)
      rw [Array.length_toList] at htl
      clear hlv
      generalize Um.txts ((vss vs).take i) = l at *
      generalize vs[i] = v at *
      obtain ⟨k, n, s⟩ := v
      simp only at hc0 hc1 hc2 HN hsl htl
      change (Um.txt s.data.toList).length ≤ s.size + 10 at htl
      go_wp2_with fail
      refine (text_any s _ (by omega)).mono ?_
      rintro e w1 ⟨rfl, hb1⟩
      have hob := hb.alloc hb.size (.cells #[.int .i64 k, .int .i64 n, .string s] 49)
      have hb2 := hob.trans (hb1.mono hob.size)
      have hown := ow_kept (HO.out.alloc (.cells #[.int .i64 k, .int .i64 n, .string s] 49)) hb1
      have htb := text_bytes s
      generalize (⟨(Um.uv s.size).toArray⟩ : ByteArray) ++ s = t at htb
      have hts : t.size = (Um.txt s.data.toList).length := by rw [← htb, Array.length_toList]; rfl
      obtain ⟨v', w', hr, hown', hgrow, _⟩ := Lib.run_append_own_string (P := Tryd.prog) w1 w.heap.size 79 9 79 5 i0 Tryd.underlying79 Tryd.underlying9 hi hz0 hz1 hz2 _ _ _ hown t (by unfold maxLen; omega) (by omega) hb2.size
      have hown2 := ow_str hown'
      rw [htb, ← HN.out] at hown2
      have hb3 := below_grown hb2 (Nat.le_refl _) hown hgrow
      clear hown hown' hgrow hts htb hc0 hc1 hc2
      go_wp2_with (at_builtin; refine Lib.wpList_append_run _ rfl _ _ 79 9 rfl _ _ rfl rfl _ _ hr ?_)
      go_roundw
      case rel => exact ⟨i + 1, by omega, by go_num, hown2, hb3⟩
      case measure => simp [intOf]; omega
    · obtain rfl : i = vs.length := by omega
      have ho := HO.out
      rw [← vss_len, List.take_length] at ho
      have hcv := ow_conv rfl ho
      go_wp2
      go_ret
      exact ⟨rfl, hb⟩
end Go.Proofs.YtalphknhkkcpgaaDoor

namespace Go.Proofs.YtalphknhkkcpgaaDoor
namespace Um
/-- How many of the first number follow. -/
def lead : List Int → Nat
  | [] => 0
  | x :: l => 1 + (l.takeWhile (· == x)).length
theorem lead_pos {l : List Int} (h : 0 < l.length) : 0 < lead l := by
  cases l with
  | nil => simp at h
  | cons x l => simp [lead]; omega
theorem lead_le (l : List Int) : lead l ≤ l.length := by
  cases l with
  | nil => simp [lead]
  | cons x l =>
    have : (l.takeWhile (· == x)).length ≤ l.length := by
      have h := List.takeWhile_append_dropWhile (p := (· == x)) (l := l)
      have h2 := congrArg List.length h
      rw [List.length_append] at h2
      omega
    simp [lead]; omega
/-- The first k are the same, the next one is another one, or none: so many follow. -/
theorem lead_of {x : Int} : ∀ {l : List Int} {k : Nat}, (∀ j (h : j < l.length), j < k → l[j] = x) → k ≤ l.length → (∀ h : k < l.length, l[k] ≠ x) → (l.takeWhile (· == x)).length = k
  | [], k, _, h2, _ => by simp at h2; simp [h2]
  | y :: l, 0, _, _, h3 => by
    have := h3 (by simp)
    simp at this
    simp [this]
  | y :: l, k + 1, h1, h2, h3 => by
    have hy : y = x := h1 0 (by simp) (by omega)
    have ih := lead_of (x := x) (l := l) (k := k) (fun j h hj => h1 (j + 1) (by simpa using h) (by omega)) (by simpa using h2) (fun h => h3 (by simpa using h))
    simp [hy, ih]
/-- Open numbers as a part of the second kind. -/
def flush (w : Nat) (p : List Int) : List UInt8 := if p.length = 0 then [] else uv (2 * ((p.length + 7) / 8) + 1) ++ lit (num w (nats p)) ((p.length + 7) / 8 * w)
/-- What is written of open numbers and the rest. -/
def wr (w : Nat) : Nat → List Int → List Int → List UInt8
  | 0, p, _ => flush w p
  | f + 1, p, r => if r.length = 0 then flush w p
    else if lead r < 8 then wr w f (p ++ r.take 8) (r.drop 8)
    else flush w p ++ (uv (2 * lead r) ++ lit (r.headD 0).toNat ((w + 7) / 8)) ++ wr w f [] (r.drop (lead r))
theorem wr_fuel (w : Nat) : ∀ (f g : Nat) (p r : List Int), r.length ≤ f → r.length ≤ g → wr w f p r = wr w g p r := by
  intro f
  induction f with
  | zero =>
    intro g p r hf hg
    have h0 : r.length = 0 := by omega
    cases g with
    | zero => rfl
    | succ g => simp only [wr]; rw [if_pos h0]
  | succ f ih =>
    intro g p r hf hg
    cases g with
    | zero =>
      have h0 : r.length = 0 := by omega
      simp only [wr]; rw [if_pos h0]
    | succ g =>
      simp only [wr]
      split
      · rfl
      · rename_i h0
        have hp := lead_pos (l := r) (by omega)
        split
        · rw [ih g _ _ (by rw [List.length_drop]; omega) (by rw [List.length_drop]; omega)]
        · rw [ih g _ _ (by rw [List.length_drop]; omega) (by rw [List.length_drop]; omega)]
def wrs (w : Nat) (p r : List Int) : List UInt8 := wr w r.length p r
theorem wrs_nil (w : Nat) (p : List Int) : wrs w p [] = flush w p := rfl
theorem wrs_short (w : Nat) (p r : List Int) (h0 : 0 < r.length) (h : lead r < 8) : wrs w p r = wrs w (p ++ r.take 8) (r.drop 8) := by
  unfold wrs
  obtain ⟨m, hm⟩ : ∃ m, r.length = m + 1 := ⟨r.length - 1, by omega⟩
  rw [hm]
  simp only [wr]
  rw [if_neg (by omega), if_pos h]
  exact wr_fuel w _ _ _ _ (by rw [List.length_drop]; omega) (Nat.le_refl _)
theorem wrs_long (w : Nat) (p r : List Int) (h : ¬ lead r < 8) : wrs w p r = flush w p ++ (uv (2 * lead r) ++ lit (r.headD 0).toNat ((w + 7) / 8)) ++ wrs w [] (r.drop (lead r)) := by
  have hl := lead_le r
  unfold wrs
  obtain ⟨m, hm⟩ : ∃ m, r.length = m + 1 := ⟨r.length - 1, by omega⟩
  rw [hm]
  simp only [wr]
  rw [if_neg (by omega), if_neg h]
  rw [wr_fuel w m (r.drop (lead r)).length _ _ (by rw [List.length_drop]; omega) (Nat.le_refl _)]
end Um
end Go.Proofs.YtalphknhkkcpgaaDoor
