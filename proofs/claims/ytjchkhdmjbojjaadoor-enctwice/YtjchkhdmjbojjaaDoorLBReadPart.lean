/-
  bitrun.readPart: a part of whatever kind.
  bitrun.ReadRuns: what it answers.
-/
import Derived.Test.YtjchkhdmjbojjaaDoorLBReadSame
import Derived.Test.YtjchkhdmjbojjaaDoorLRd
namespace Go.Proofs.YtjchkhdmjbojjaaDoor
open Go.RowKit
set_option linter.unusedVariables false
theorem cut_list (s : ByteArray) (k : Nat) : (s.extract k s.size).data.toList = s.data.toList.drop k := by
  rw [ByteArray.data_extract, Array.toList_extract]
  simp only [List.extract_eq_take_drop]
  exact List.take_of_length_le (by simp)
theorem cut_size (s : ByteArray) (k : Nat) : (s.extract k s.size).size ≤ s.size := by rw [ByteArray.size_extract]; omega
theorem retPart_map {r : Option (List Nat × Nat)} {ev : Value} {e : Ending} {w' : World} (h : RetPart r ev e w') : (r = none ∧ e = .returned (.tuple #[.slice none 0 0, .int .i64 0, ev])) ∨ ∃ p u a c, r = some (p, u) ∧ e = .returned (.tuple #[.slice a (List.length p) c, .int .i64 (u : Nat), .nilIface]) ∧ Lies w' a (i64s (p.map fun n : Nat => (n : Int))) := by
  cases r with
  | none => exact Or.inl ⟨rfl, h⟩
  | some x =>
    obtain ⟨p, u⟩ := x
    obtain ⟨a, c, he, hl⟩ := h
    exact Or.inr ⟨p, u, a, c, rfl, he, hl⟩
set_option maxRecDepth 100000 in
set_option maxHeartbeats 1600000 in
theorem readPart_any (s : ByteArray) (wd left : Nat) (w : World) (st : TypeId) (sp : Value) (hs : s.size ≤ 1000000) (hwd : wd ≤ 32) (hleft : left ≤ 20000) (hl0 : 0 < left) (hg : w.cell? ⟨0, 0, none⟩ = some (.iface st sp)) :
    Calls Tryd.prog 87 #[.string s, .int .i64 wd, .int .i64 left] w fun e w' => RetPart (Um.part s.data.toList wd left) (.iface st sp) e w' ∧ Below w.heap.size w w' := by
  have HG : Hid (w.cell? ⟨0, 0, none⟩ = some (.iface st sp)) := hg
  obtain ⟨hr1, hr2, hr3⟩ := Um.rdv_room s.data.toList 0 0 (by simp)
  have hr3 : (Um.rdv s.data.toList 0 0).2 ≤ s.size := by simpa using hr3
  have HP : Hid (Um.part s.data.toList wd left = if (Um.rdv s.data.toList 0 0).2 = 0 then none else (if (Um.rdv s.data.toList 0 0).1 % 2 = 0 then Um.same (s.data.toList.drop (Um.rdv s.data.toList 0 0).2) wd ((Um.rdv s.data.toList 0 0).1 / 2) left else Um.grps (s.data.toList.drop (Um.rdv s.data.toList 0 0).2) wd ((Um.rdv s.data.toList 0 0).1 / 2) left).map fun p => (p.1, (Um.rdv s.data.toList 0 0).2 + p.2)) := rfl
  clear hg
  go_enter Tryd.func87, Tryd.ntmps87
  go_wp2_with fail
  refine (readUvarint_any s w _ (by unfold maxLen; omega) HG.out).mono ?_
  generalize (Um.rdv s.data.toList 0 0).1 = h at hr1 HP
  generalize (Um.rdv s.data.toList 0 0).2 = k at hr2 hr3 HP
  rintro e w1 ⟨rfl, hb1⟩
  by_cases hk : k = 0
  · subst hk
    have HN := HP.out
    rw [if_pos rfl] at HN
    have HN2 : Hid (Um.part s.data.toList wd left = none) := HN
    clear HN
    have he : errOf (.iface st sp) 0 = .iface st sp := rfl
    rw [he]
    clear he
    go_wp2_with fail
    go_ret3
    refine ⟨?_, hb1⟩
    rw [HN2.out]
    rfl
  · have HN := HP.out
    rw [if_neg hk] at HN
    have he : errOf (.iface st sp) k = .nilIface := by unfold errOf; rw [if_neg hk]
    rw [he]
    have hg1 := (hb1.cell (World.block_lt_of_cell? w _ HG.out)).trans HG.out
    have HG1 : Hid (w1.cell? ⟨0, 0, none⟩ = some (.iface st sp)) := hg1
    clear hg1 he
    by_cases hpar : h % 2 = 0
    · have hd : (((h : Int) % 2) == 0) = true := by simp; omega
      rw [if_pos hpar] at HN
      have HN2 : Hid (Um.part s.data.toList wd left = (Um.same (s.data.toList.drop k) wd (h / 2) left).map fun p => (p.1, k + p.2)) := HN
      clear HN
      obtain ⟨m2, HM⟩ : ∃ m2, Hid (m2 = h / 2) := ⟨_, rfl⟩
      have hm2 : (h : Int) / 2 = (m2 : Int) := by rw [HM.out]; omega
      have hm3 : m2 < 18446744073709551616 := by rw [HM.out]; omega
      have HS : Hid ((s.extract k s.size).size ≤ 1000000) := Nat.le_trans (cut_size s k) hs
      go_wp2_with fail
      refine (readSame_any (s.extract k s.size) wd m2 left w1 st sp HS.out hwd hm3 hleft HG1.out).mono ?_
      rw [cut_list, HM.out]
      rintro e w2 ⟨hret, hb2⟩
      have hb12 := hb1.trans (hb2.mono hb1.size)
      rcases retPart_map hret with ⟨hn, rfl⟩ | ⟨p, u, a, c, hn, rfl, hl⟩
      · rw [hn] at HN2
        have HN3 : Hid (Um.part s.data.toList wd left = none) := HN2
        clear hn HN2 hret
        go_wp2_with fail
        go_ret3
        refine ⟨?_, hb12⟩
        rw [HN3.out]
        rfl
      · have hu : u ≤ s.size := by
          have := (Um.same_len hn).2
          rw [List.length_drop] at this
          simp at this
          omega
        rw [hn] at HN2
        have HN3 : Hid (Um.part s.data.toList wd left = some (p, k + u)) := HN2
        have HLs : Hid (Lies w2 a (i64s (p.map fun n : Nat => (n : Int)))) := hl
        clear hn HN2 hret hl
        go_wp2_with fail
        go_ret3
        refine ⟨?_, hb12⟩
        rw [HN3.out]
        exact ⟨a, c, by simp, HLs.out⟩
    · have hd : (((h : Int) % 2) == 0) = false := by simp; omega
      rw [if_neg hpar] at HN
      have HN2 : Hid (Um.part s.data.toList wd left = (Um.grps (s.data.toList.drop k) wd (h / 2) left).map fun p => (p.1, k + p.2)) := HN
      clear HN
      obtain ⟨m2, HM⟩ : ∃ m2, Hid (m2 = h / 2) := ⟨_, rfl⟩
      have hm2 : (h : Int) / 2 = (m2 : Int) := by rw [HM.out]; omega
      have hm3 : m2 < 18446744073709551616 := by rw [HM.out]; omega
      have HS : Hid ((s.extract k s.size).size ≤ 1000000) := Nat.le_trans (cut_size s k) hs
      go_wp2_with fail
      refine (readGroups_any (s.extract k s.size) wd m2 left w1 st sp HS.out hwd hm3 hleft HG1.out).mono ?_
      rw [cut_list, HM.out]
      rintro e w2 ⟨hret, hb2⟩
      have hb12 := hb1.trans (hb2.mono hb1.size)
      rcases retPart_map hret with ⟨hn, rfl⟩ | ⟨p, u, a, c, hn, rfl, hl⟩
      · rw [hn] at HN2
        have HN3 : Hid (Um.part s.data.toList wd left = none) := HN2
        clear hn HN2 hret
        go_wp2_with fail
        go_ret3
        refine ⟨?_, hb12⟩
        rw [HN3.out]
        rfl
      · have hu : u ≤ s.size := by
          have := (Um.grps_len hl0 hn).2
          rw [List.length_drop] at this
          simp at this
          omega
        rw [hn] at HN2
        have HN3 : Hid (Um.part s.data.toList wd left = some (p, k + u)) := HN2
        have HLs : Hid (Lies w2 a (i64s (p.map fun n : Nat => (n : Int)))) := hl
        clear hn HN2 hret hl
        go_wp2_with fail
        go_ret3
        refine ⟨?_, hb12⟩
        rw [HN3.out]
        exact ⟨a, c, by simp, HLs.out⟩
end Go.Proofs.YtjchkhdmjbojjaaDoor

namespace Go.Proofs.YtjchkhdmjbojjaaDoor
open Go.RowKit
set_option linter.unusedVariables false
set_option maxRecDepth 100000 in
set_option maxHeartbeats 800000 in
theorem readRuns_bound (s : ByteArray) (k n : Int) (w : World) (st : TypeId) (sp : Value) (hg : w.cell? ⟨3, 0, none⟩ = some (.iface st sp)) (hk : decide (0 ≤ k ∧ k ≤ 32) = false ∨ decide (0 ≤ k ∧ k ≤ 32) = true ∧ decide (0 ≤ n ∧ n ≤ 20000) = false) :
    Calls Tryd.prog 53 #[.string s, .int .i64 k, .int .i64 n] w fun e w' => e = .returned (.tuple #[.slice none 0 0, .int .i64 0, .iface st sp]) ∧ Below w.heap.size w w' := by
  rcases hk with h | ⟨h, h'⟩
  all_goals
    go_enter Tryd.func53, Tryd.ntmps53
    go_wp2_with (first | (go_at_call 85; refine (isWidth_any _ _).mono ?_; rw [h]; rintro e w1 ⟨rfl, hw⟩; obtain rfl := hw.symm) | (go_at_call 86; refine (isCount_any _ _).mono ?_; rw [h']; rintro e w1 ⟨rfl, hw⟩; obtain rfl := hw.symm))
    go_region
    all_goals (try go_wp2)
    all_goals go_ret3
    all_goals exact ⟨rfl, (Below.refl _ _).drew⟩
/-- Numbers as ints' cells. -/
def nvals (l : List Nat) : List Value := i64s (l.map fun n : Nat => (n : Int))
theorem nvals_len (l : List Nat) : (nvals l).length = l.length := by simp [nvals, i64s]
theorem nvals_app (a b : List Nat) : nvals (a ++ b) = nvals a ++ nvals b := by simp [nvals, i64s]
theorem nvals_one (l : List Nat) : ∀ u ∈ nvals l, u.oneCell' = true := by
  intro u hu
  obtain ⟨x, _, rfl⟩ := List.mem_map.1 hu
  rfl
theorem lies_src {w : World} {a : Option Addr} {cs : List Value} (h : Lies w a cs) : ∀ ad, a = some ad → ∀ j u, cs[j]? = some u → w.cell? (ad.add j) = some u := by
  intro ad had j u hu
  obtain ⟨hj, rfl⟩ := List.getElem?_eq_some_iff.1 hu
  obtain ⟨b, o, e, hc⟩ := h j hj
  obtain rfl := Option.some.inj (had.symm.trans e)
  rw [addr_add]; exact hc
theorem lies_none {w : World} {cs : List Value} (h : Lies w none cs) : cs.length = 0 := by
  by_cases h0 : 0 < cs.length
  · obtain ⟨b, o, e, _⟩ := h 0 h0
    cases e
  · omega
theorem own_below {w w' : World} {base e size n : Nat} {v : Value} {xs : List Value} (h : w.ownsRow base e size v n xs) (hb : Below w.heap.size w w') : w'.ownsRow base e size v n xs := by
  refine ⟨h.1, ?_⟩
  rcases h.2 with hn | ⟨g, cap, cur, rfl, hbg, hgg, rest⟩
  · exact .inl hn
  · exact .inr ⟨g, cap, cur, rfl, hbg, (hb.block g (Array.getElem?_eq_some_iff.1 hgg).1).trans hgg, rest⟩
/-- A slice's length. -/
def rrLen : Value → Nat | .slice _ k _ => k | _ => 0
/-- What the loop keeps. -/
structure RR (s : ByteArray) (wd n : Nat) (w : World) (l u : Value) (wr : World) (acc : List Nat) (at_ : Nat) : Prop where
  hl : l = .slice (some ⟨w.heap.size, 0, none⟩) acc.length n
  hu : u = .int .i64 at_
  le : acc.length ≤ n
  hs : at_ ≤ s.size
  so : Um.Sofar s.data.toList wd n acc at_
  own : wr.ownsRow w.heap.size 3 1 (.slice (some ⟨w.heap.size, 0, none⟩) acc.length n) acc.length (nvals acc)
  old : Below w.heap.size w wr
set_option maxRecDepth 100000 in
set_option maxHeartbeats 1600000 in
theorem readRuns_any (s : ByteArray) (wd n : Nat) (w : World) (st : TypeId) (sp : Value) (hs : s.size ≤ 1000000) (hwd : wd ≤ 32) (hn : n ≤ 20000) (hg : w.cell? ⟨0, 0, none⟩ = some (.iface st sp)) :
    Calls Tryd.prog 53 #[.string s, .int .i64 wd, .int .i64 n] w fun e w' => RetPart (Um.runs s.data.toList wd n) (.iface st sp) e w' ∧ Below w.heap.size w w' := by
  have hd1 : decide (0 ≤ (wd : Int) ∧ (wd : Int) ≤ 32) = true := by simp; omega
  have hd2 : decide (0 ≤ (n : Int) ∧ (n : Int) ≤ 20000) = true := by simp; omega
  have HG : Hid (w.cell? ⟨0, 0, none⟩ = some (.iface st sp)) := hg
  obtain ⟨i0, hi, hz0, hz1, hz2⟩ := info_parts Tryd.info3
  obtain ⟨M, hM⟩ : ∃ M, M = madeCells (Value.int .i64 0).cells (((n : Nat) : Int).toNat * i0.size) := ⟨_, rfl⟩
  have hMs : M.size = n := by rw [hM, size_madeCells, hz1]; simp
  have hmk : ∀ W : World, (Instr.makeSlice 49 (.int .i64 0) (.int .i64 (n : Int))).run Tryd.prog W = .ok (.slice (some ⟨W.heap.size, 0, none⟩) 0 n) (W.alloc (.cells M 3)) := fun W => by
    have h := run_make (P := Tryd.prog) W 49 3 i0 (.int .i64 0) Tryd.underlying49 hi hz0 .i64 .i64 0 (n : Int) (by omega) (by omega) (by rw [hz2]; omega) (by omega)
    rw [← hM] at h
    simpa using h
  have HS : Hid ((w.alloc (.cells M 3)).ownsRow w.heap.size 3 1 (.slice (some ⟨w.heap.size, 0, none⟩) 0 n) 0 []) := World.ownsRow_made w M n (Nat.le_refl _) (by unfold maxLen; omega) (by omega)
  clear hg hM hMs
  go_enter Tryd.func53, Tryd.ntmps53
  go_wp2_with (first | (go_at_call 85; refine (isWidth_any _ _).mono ?_; rw [hd1]; rintro e w1 ⟨rfl, hw⟩; obtain rfl := hw.symm) | (go_at_call 86; refine (isCount_any _ _).mono ?_; rw [hd2]; rintro e w1 ⟨rfl, hw⟩; obtain rfl := hw.symm))
  clear hmk
  go_loopw [6, 7] (fun l u wr => ∃ (acc : List Nat) (at_ : Nat), Hid (RR s wd n w l u wr acc at_)) (fun l _ _ => n - rrLen l)
  case atStart => exact ⟨[], 0, ⟨rfl, rfl, Nat.zero_le _, Nat.zero_le _, Um.sofar_zero _ _ _, HS, (Below.refl _ _).alloc (Nat.le_refl _) _⟩⟩
  case round =>
    obtain ⟨acc, at_, HR⟩ := hrel
    obtain ⟨rfl, rfl, hle, has, hso, hown, hb⟩ := HR.out
    have HSo : Hid (Um.Sofar s.data.toList wd n acc at_) := hso
    clear hso
    by_cases hlt : acc.length < n
    · obtain ⟨m, HM⟩ : ∃ m, Hid (m = n - acc.length) := ⟨_, rfl⟩
      have hm : (n : Int) - (acc.length : Int) = (m : Int) := by rw [HM.out]; omega
      have hg1 := (hb.cell (World.block_lt_of_cell? w _ HG.out)).trans HG.out
      have HG1 : Hid (wr.cell? ⟨0, 0, none⟩ = some (.iface st sp)) := hg1
      have HSz : Hid ((s.extract at_ s.size).size ≤ 1000000) := Nat.le_trans (cut_size s at_) hs
      clear hg1
      go_wp2_with fail
      refine (readPart_any (s.extract at_ s.size) wd m wr st sp HSz.out hwd (by rw [HM.out]; omega) (by rw [HM.out]; omega) HG1.out).mono ?_
      rw [cut_list, HM.out]
      rintro e w2 ⟨hret, hb2⟩
      have hb12 := hb.trans (hb2.mono hb.size)
      rcases retPart_map hret with ⟨hpn, rfl⟩ | ⟨p, u, a, c, hpn, rfl, hl⟩
      · have HN : Hid (Um.runs s.data.toList wd n = none) := Um.sofar_none HSo.out hlt hpn
        clear hpn hret
        go_wp2_with fail
        go_ret3
        refine ⟨?_, hb12⟩
        rw [HN.out]
        rfl
      · have hpl := Um.part_len (by omega) hpn
        rw [List.length_drop] at hpl
        simp only at hpl
        have hsl : s.data.toList.length = s.size := by simp
        have HN : Hid (Um.Sofar s.data.toList wd n (acc ++ p) (at_ + u)) := Um.sofar_step HSo.out hlt hpn
        have hp1 : 0 < p.length := hpl.1.1
        have hp2 : acc.length + p.length ≤ n := by have := hpl.1.2; omega
        have hu2 : at_ + u ≤ s.size := by have := hpl.2; omega
        have hown2 : w2.ownsRow w.heap.size 3 1 (.slice (some ⟨w.heap.size, 0, none⟩) acc.length n) acc.length (nvals acc) := own_below hown hb2
        have HL2 : Hid (Lies w2 a (nvals p)) := hl
        clear hpn hret hpl hsl hl
        go_wp2_with (at_builtin; refine wpList_append_fits_any _ rfl _ _ 49 rfl w.heap.size 3 i0 1 Tryd.underlying49 hi hz1 w.heap.size acc.length n (nvals acc) rfl hown2 a p.length c (nvals p) rfl (by rw [nvals_len, Nat.mul_one]) (fun e => by subst e; have := lies_none HL2.out; rw [nvals_len] at this; omega) (lies_src HL2.out) (nvals_one p) hp2 ?_; intro w3 hown3 hgrow)
        have hb3 : Below w.heap.size w w3 := hb12.grown hgrow hb12.size (fun k hk => by simp at hk; omega)
        rw [← nvals_app] at hown3
        go_roundw
        case rel => exact ⟨acc ++ p, at_ + u, ⟨by simp, by go_num, by simp; omega, hu2, HN.out, by rw [List.length_append]; exact hown3, hb3⟩⟩
        case measure => simp [rrLen]; omega
    · have HN : Hid (Um.runs s.data.toList wd n = some (acc, at_)) := Um.sofar_end HSo.out (by omega)
      go_wp2_with fail
      go_ret3
      refine ⟨?_, hb⟩
      rw [HN.out]
      obtain ⟨a', c', hav, hl⟩ := lies_own hown
      exact ⟨some ⟨w.heap.size, 0, none⟩, n, rfl, by injection hav with h1 _ _; subst h1; exact hl⟩
end Go.Proofs.YtjchkhdmjbojjaaDoor
