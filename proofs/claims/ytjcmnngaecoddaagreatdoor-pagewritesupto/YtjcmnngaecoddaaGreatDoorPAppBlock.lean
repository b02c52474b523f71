/-
  enc.appendBlock: a block of differences.
-/
import Derived.Test.YtjcmnngaecoddaaGreatDoorPBPTexts
import Derived.Test.YtjcmnngaecoddaaGreatDoorPBPack
import Derived.Test.YtjcmnngaecoddaaGreatDoorPMarked
import Derived.Test.YtjcmnngaecoddaaGreatDoorPLen
import Derived.Test.YtjcmnngaecoddaaGreatDoorPBWVarint
namespace Go.Proofs.YtjcmnngaecoddaaGreatDoor
open Go.RowKit
theorem Tryz.infoU64 : (Tryz.prog.info? 65).map (fun i => (i.zero, i.size, i.bytes)) = some (some (.int .u64 0), 1, 8) := by kernel_rfl
theorem Tryz.underlyingU64s : Tryz.prog.underlying 96 = some (.slice 65) := by kernel_rfl
/-- How far each lies above the least. -/
def abv (ds : List Int) : List Nat := ds.map fun d => (d - lows ds).toNat
def wdt (ds : List Int) : Nat := Lib.bitLen (highs ds - lows ds).toNat
/-- A block's bytes. -/
def blkB (ds : List Int) : List UInt8 := Um.uv (zig (lows ds)) ++ (Um.bt (wdt ds : Nat) :: Um.lit (Um.num (wdt ds) (abv ds)) ((ds.length * wdt ds + 7) / 8))
theorem mins_le (xs : List Int) : ∀ x : Int, xs.foldl min x ≤ x ∧ ∀ y ∈ xs, xs.foldl min x ≤ y := by
  induction xs with
  | nil => intro x; exact ⟨Int.le_refl _, fun y h => by simp at h⟩
  | cons z zs ih =>
    intro x
    obtain ⟨h1, h2⟩ := ih (min x z)
    refine ⟨by simp only [List.foldl_cons]; omega, fun y hy => ?_⟩
    simp only [List.foldl_cons]
    rcases List.mem_cons.1 hy with rfl | hy
    · omega
    · exact h2 y hy
theorem maxs_ge (xs : List Int) : ∀ x : Int, x ≤ xs.foldl max x ∧ ∀ y ∈ xs, y ≤ xs.foldl max x := by
  induction xs with
  | nil => intro x; exact ⟨Int.le_refl _, fun y h => by simp at h⟩
  | cons z zs ih =>
    intro x
    obtain ⟨h1, h2⟩ := ih (max x z)
    refine ⟨by simp only [List.foldl_cons]; omega, fun y hy => ?_⟩
    simp only [List.foldl_cons]
    rcases List.mem_cons.1 hy with rfl | hy
    · omega
    · exact h2 y hy
theorem mins_in (xs : List Int) : ∀ x : Int, xs.foldl min x = x ∨ xs.foldl min x ∈ xs := by
  induction xs with
  | nil => intro x; exact Or.inl rfl
  | cons z zs ih =>
    intro x
    simp only [List.foldl_cons]
    rcases ih (min x z) with h | h
    · by_cases hz : z ≤ x
      · exact Or.inr (by rw [h, Int.min_eq_right hz]; simp)
      · exact Or.inl (by rw [h, Int.min_eq_left (by omega)])
    · exact Or.inr (List.mem_cons_of_mem _ h)
theorem maxs_in (xs : List Int) : ∀ x : Int, xs.foldl max x = x ∨ xs.foldl max x ∈ xs := by
  induction xs with
  | nil => intro x; exact Or.inl rfl
  | cons z zs ih =>
    intro x
    simp only [List.foldl_cons]
    rcases ih (max x z) with h | h
    · by_cases hz : x ≤ z
      · exact Or.inr (by rw [h, Int.max_eq_right hz]; simp)
      · exact Or.inl (by rw [h, Int.max_eq_left (by omega)])
    · exact Or.inr (List.mem_cons_of_mem _ h)
theorem lows_in {ds : List Int} (h : 0 < ds.length) : lows ds ∈ ds := by
  rcases mins_in ds (ds.getD 0 0) with e | e
  · unfold lows
    rw [e]
    simp [List.getD, h]
  · exact e
theorem highs_in {ds : List Int} (h : 0 < ds.length) : highs ds ∈ ds := by
  rcases maxs_in ds (ds.getD 0 0) with e | e
  · unfold highs
    rw [e]
    simp [List.getD, h]
  · exact e
theorem lows_le {ds : List Int} {d : Int} (h : d ∈ ds) : lows ds ≤ d := (mins_le ds _).2 d h
theorem highs_ge {ds : List Int} {d : Int} (h : d ∈ ds) : d ≤ highs ds := (maxs_ge ds _).2 d h
theorem bl_lt : ∀ (k x : Nat), k ≤ 64 → x < 2 ^ k → x < 2 ^ Lib.bitLen x ∧ Lib.bitLen x ≤ k
  | 0, x, _, h => by
    have : x = 0 := by simpa using h
    subst this
    decide
  | k + 1, x, hk, h => by
    by_cases h0 : x = 0
    · subst h0; exact ⟨by decide, by have : Lib.bitLen 0 = 0 := by decide
                                     omega⟩
    · have h64 : x < 2 ^ 64 := Nat.lt_of_lt_of_le h (Nat.pow_le_pow_right (by omega) hk)
      rw [Lib.bitLen_half x h0 h64]
      obtain ⟨h1, h2⟩ := bl_lt k (x / 2) (by omega) (by rw [Nat.pow_succ] at h; omega)
      refine ⟨?_, by omega⟩
      rw [Nat.add_comm, Nat.pow_succ]
      omega
theorem abv_len (ds : List Int) : (abv ds).length = ds.length := by simp [abv]
theorem abv_lt {ds : List Int} (h : ∀ d ∈ ds, -9223372036854775808 ≤ d ∧ d ≤ 9223372036854775807) (h0 : 0 < ds.length) : (∀ x ∈ abv ds, x < 2 ^ wdt ds) ∧ wdt ds ≤ 64 := by
  have hl := h _ (lows_in h0)
  have hh := h _ (highs_in h0)
  obtain ⟨h1, h2⟩ := bl_lt 64 (highs ds - lows ds).toNat (Nat.le_refl _) (by
    rw [show (2 : Nat) ^ 64 = 18446744073709551616 by decide]; omega)
  refine ⟨fun x hx => ?_, h2⟩
  obtain ⟨d, hd, rfl⟩ := List.mem_map.1 hx
  have := highs_ge hd
  exact Nat.lt_of_le_of_lt (by omega) h1
/-- What appendBlock gives. -/
def RetAB (B : Nat) (l : List UInt8) (w : World) (e : Ending) (w' : World) : Prop := ∃ v', e = .returned v' ∧ OwnM w' B v' l ∧ Below B w w' ∧ Stand w w'
set_option maxRecDepth 100000 in
set_option maxHeartbeats 1600000 in
/-- appendBlock, of a row of bytes of the caller's own. -/
theorem appendBlock_any (B g0 o c : Nat) (v : Value) (l : List UInt8) (ds : List Int) (w : World) (hown : OwnM w B v l) (hB : B ≤ w.heap.size) (hl : Lies w (some ⟨g0, o, none⟩) (i64s ds)) (h0 : 0 < ds.length) (hn : ds.length ≤ 200) (hx : ∀ d ∈ ds, -9223372036854775808 ≤ d ∧ d ≤ 9223372036854775807) (hll : l.length ≤ 100000000) :
    Calls Tryz.prog 111 #[v, .slice (some ⟨g0, o, none⟩) ds.length c] w fun e w' => RetAB B (l ++ blkB ds) w e w' := by
  have hlo := hx _ (lows_in h0)
  have hhi := hx _ (highs_in h0)
  have hlh := lows_le (highs_in h0)
  obtain ⟨ha1, ha2⟩ := abv_lt hx h0
  have HA1 : Hid (∀ x ∈ abv ds, x < 2 ^ wdt ds) := ha1
  have HX : Hid (∀ d ∈ ds, -9223372036854775808 ≤ d ∧ d ≤ 9223372036854775807) := hx
  have HO : Hid (OwnM w B v l) := hown
  have HL : Hid _ := hl
  have HMin := fun W h => min_any (some ⟨g0, o, none⟩) ds c W h h0 (by omega)
  have HMax := fun W h => max_any (some ⟨g0, o, none⟩) ds c W h h0 (by omega)
  have HLB : Hid (blkB ds = Um.uv (zig (lows ds)) ++ (Um.bt (wdt ds : Nat) :: Um.lit (Um.num (wdt ds) (abv ds)) ((ds.length * wdt ds + 7) / 8))) := rfl
  have HWD : Hid (wdt ds = Lib.bitLen (highs ds - lows ds).toNat) := rfl
  have HAB : Hid (∀ j (h : j < ds.length), (abv ds).getD j 0 = (ds[j] - lows ds).toNat) := fun j h => by simp [abv, List.getD, h]
  have HLE : Hid (∀ d ∈ ds, lows ds ≤ d) := fun d h => lows_le h
  have hal := abv_len ds
  clear ha1 hx hown hl
  generalize abv ds = us at *
  generalize wdt ds = wd at *
  generalize blkB ds = bb at *
  generalize lows ds = lo at *
  generalize highs ds = hi at *
  obtain ⟨i0, hi0, hz0, hz1, hz2⟩ := info_parts Tryz.info5
  obtain ⟨iv, hvi, hv0, hv1, hv2⟩ := info_parts Tryz.infoU64
  have hzl := zig_lt hlo.1 hlo.2
  have huv := Um.uv_ten hzl
  obtain ⟨M, hM⟩ : ∃ M, M = madeCells (Value.int .u64 0).cells (((ds.length : Nat) : Int).toNat * iv.size) := ⟨_, rfl⟩
  have hMs : M.size = ds.length := by rw [hM, size_madeCells, hv1]; simp
  have hmk : ∀ W : World, (Instr.makeSlice 96 (.int .i64 (ds.length : Int)) (.int .i64 (ds.length : Int))).run Tryz.prog W = .ok (.slice (some ⟨W.heap.size, 0, none⟩) ds.length ds.length) (W.alloc (.cells M 65)) := fun W => by
    have h := run_make (P := Tryz.prog) W 96 65 iv (.int .u64 0) Tryz.underlyingU64s hvi hv0 .i64 .i64 (ds.length : Int) (ds.length : Int) (by omega) (by omega) (by rw [hv2]; omega) (by omega)
    rw [← hM] at h
    simpa using h
  have HS : Hid (GRow (fun j => .int .u64 (us.getD j 0 : Nat)) ds.length w.heap.size w (w.alloc (.cells M 65)) 0) := GRow.start _ _ _ _ _ hMs
  have HST : Hid (Typed w.heap.size 65 (w.alloc (.cells M 65))) := Typed.new _ _ _
  have HD : Hid (IntKind.u64.wrap (IntKind.u64.wrap hi - IntKind.u64.wrap lo) = ((hi - lo).toNat : Int)) := by
    show _ = _
    rw [IntKind.wrap_u64, IntKind.wrap_u64, IntKind.wrap_u64]; omega
  have hd64 : (hi - lo).toNat < 18446744073709551616 := by omega
  have hal' : Hid _ := hal
  clear hM hMs hal
  go_enter Tryz.func111, Tryz.ntmps111
  go_wp2_with fail
  refine (HMin w HL.out).mono ?_
  rintro e w1 ⟨rfl, hw⟩
  obtain rfl := hw.symm
  go_wp2_with fail
  refine (HMax _ HL.out).mono ?_
  rintro e w1 ⟨rfl, hw⟩
  obtain rfl := hw.symm
  clear HMin HMax
  go_wp2_with fail
  rw [HD.out]
  refine (len64_any _ _ hd64).mono ?_
  rintro e w1 ⟨rfl, hw⟩
  obtain rfl := hw.symm
  rw [← HWD.out]
  clear hd64 HD HWD
  go_wp2
  clear hmk
  go_loopw [26] (fun x wr => ∃ i : Nat, i ≤ ds.length ∧ x = .int .i64 i ∧ w.heap.size < wr.heap.size ∧ Hid (GRow (fun j => .int .u64 (us.getD j 0 : Nat)) ds.length w.heap.size w wr i) ∧ Hid (Typed w.heap.size 65 wr)) (fun x _ => ds.length - (intOf x).toNat)
  case atStart => exact ⟨0, Nat.zero_le _, rfl, by simp, HS, HST⟩
  case round =>
    clear HS HST
    obtain ⟨i, hik, rfl, hsl, HV, HTy⟩ := hrel
    have hb := HV.out.old
    by_cases hlt : i < ds.length
    · obtain ⟨b', o', e', hc⟩ := lies_ints (Lies.keep HL.out hb) i hlt
      obtain ⟨rfl, rfl⟩ : g0 = b' ∧ o = o' := by simpa using e'
      clear e'
      have hdr := HX.out ds[i] (List.getElem_mem hlt)
      have hdl := HLE.out ds[i] (List.getElem_mem hlt)
      have HE : Hid (IntKind.u64.wrap (IntKind.u64.wrap ds[i] - IntKind.u64.wrap lo) = (us.getD i 0 : Nat)) := by
        show _ = _
        rw [HAB.out i hlt, IntKind.wrap_u64, IntKind.wrap_u64, IntKind.wrap_u64]; omega
      generalize ds[i] = d at *
      obtain ⟨y0, q0⟩ := HV.out.any i hlt
      have f0 := HV.out.froz i hlt
      go_wp2
      rw [HE.out]
      go_roundw
      case rel =>
        exact ⟨i + 1, by omega, by go_num, by simpa using hsl, HV.out.next (Nat.le_refl _) hlt rfl, HTy.out.set _ _⟩
      case measure => simp [intOf]; omega
    · obtain rfl : i = ds.length := by omega
      have HLU : Hid (Lies wr (some ⟨w.heap.size, 0, none⟩) (u64s us)) := fun j hj => by
        rw [u64s_len, hal'.out] at hj
        refine ⟨w.heap.size, 0, rfl, ?_⟩
        have hj' : j < us.length := by rw [hal'.out]; exact hj
        rw [Nat.zero_add, HV.out.done j hj]
        simp [u64s, List.getD, hj']
      have hown := HO.out.keep hb
      go_wp2_with fail
      refine (varint_any lo _ hlo.1 hlo.2).mono ?_
      rintro e w1 ⟨rfl, hb1⟩
      have hown1 := hown.keep hb1
      have hbB1 : Below B w w1 := (hb.mono hB).trans (hb1.mono (Nat.le_trans hB hb.size))
      have S1 : Stand wr w1 := Stand.below hb1
      have T1 := S1.typed (by decide) HTy.out
      have L1 := S1.lies (by decide) HTy.out HLU.out
      obtain ⟨m1, hm1⟩ : ∃ m1 : List UInt8, m1 = Um.uv (zig lo) := ⟨_, rfl⟩
      rw [← hm1] at huv
      have htb : (⟨m1.toArray⟩ : ByteArray).data.toList = m1 := by simp
      have hts : (⟨m1.toArray⟩ : ByteArray).size = m1.length := by simp [ByteArray.size]
      rw [← hm1]
      generalize (⟨m1.toArray⟩ : ByteArray) = t at *
      obtain ⟨v2, w2, hr2, hown2, hgrow2⟩ := appM_string w1 B 80 v l m1 hown1 t htb (by omega) (Nat.le_trans hB hbB1.size)
      have hb2 := OwnM.below hbB1 hB hown1 hgrow2
      have S2 := hown1.stand hgrow2
      have T2 := S2.typed (by decide) T1
      have L2 := S2.lies (by decide) T1 L1
      have SS : Stand w w2 := ((Stand.below hb).trans S1).trans S2
      have HL2 : Hid _ := L2
      have HT2 : Hid _ := T2
      have HSS : Hid _ := SS
      have hlm : (l ++ m1).length ≤ 100000010 := by rw [List.length_append]; omega
      have HLM : Hid (l ++ bb = l ++ m1 ++ [Um.bt (wd : Nat)] ++ Um.lit (Um.num wd us) ((ds.length * wd + 7) / 8)) := by
        show _ = _
        rw [HLB.out, ← hm1]; simp
      clear hgrow2 hown1 hown S1 S2 SS T1 T2 L1 L2 HTy HLU HV HO htb hts huv hm1 hzl
      generalize l ++ m1 = l2 at *
      have hba : Below w2.heap.size w2 (w2.alloc (.cells #[.int .u8 wd] 5)) := (Below.refl _ _).alloc (Nat.le_refl _) _
      have hwb : Um.bt (wd : Nat) = UInt8.ofNat wd := by simp [Um.bt]
      have hnew : ∀ j u, (cellsOf [Um.bt (wd : Nat)])[j]? = some u → (w2.alloc (.cells #[.int .u8 wd] 5)).cell? ((⟨w2.heap.size, 0, none⟩ : Addr).add j) = some u := fun j u hu => by
        obtain ⟨hj, e⟩ := List.getElem?_eq_some_iff.1 hu
        obtain rfl : j = 0 := by simp [cellsOf] at hj; exact hj
        rw [addr_add, cell_of_row _ w2.heap.size _ _ _ (0, 0) (heap_alloc_new w2 _), ← e]
        simp [cellsOf, hwb]
        omega
      obtain ⟨v3, w3, hr3', hown3, hgrow3⟩ := appM_slice (w2.alloc (.cells #[.int .u8 wd] 5)) B 80 v2 l2 [Um.bt (wd : Nat)] (hown2.keep hba) ⟨w2.heap.size, 0, none⟩ 1 hnew (by simp; omega) (by have := hb2.size; simp; omega)
      have hr3 : (Builtin.append_ #[80, 80] 80 #[v2, .slice (some ⟨w2.heap.size, 0, none⟩) 1 1]).run Tryz.prog (w2.alloc (.cells #[.int .u8 wd] 5)) = .ok v3 w3 := hr3'
      have hbA : Below B w (w2.alloc (.cells #[.int .u8 wd] 5)) := hb2.trans (hba.mono (Nat.le_trans hB hb2.size))
      have hb3 := OwnM.below hbA hB (hown2.keep hba) hgrow3
      have S3 : Stand w2 w3 := (Stand.below hba).trans ((hown2.keep hba).stand hgrow3)
      clear hr3' hnew hgrow3 hbA hba hwb
      go_wp2_with (first | (at_builtin; refine Lib.wpList_append_run _ rfl _ _ 80 9 rfl _ _ rfl rfl _ _ hr2 ?_) | (at_builtin; refine Lib.wpList_append_run _ rfl _ _ 80 80 rfl _ _ rfl rfl _ _ hr3 ?_) | fail)
      have L3 := S3.lies (by decide) HT2.out HL2.out
      have HPW := packWide_any (some ⟨w.heap.size, 0, none⟩) us ds.length wd w3 L3 (by rw [hal'.out]; omega) ha2 HA1.out
      rw [hal'.out] at HPW
      refine HPW.mono ?_
      rintro e w4 ⟨⟨g, rfl, hl4⟩, hb4⟩
      have hown4 := hown3.keep hb4
      have hbB4 : Below B w w4 := hb3.trans (hb4.mono (Nat.le_trans hB hb3.size))
      have S4 : Stand w w4 := (Stand.trans HSS.out S3).trans (Stand.below hb4)
      have hnb : (ds.length * wd + 7) / 8 ≤ 2000 := by
        have := Nat.mul_le_mul hn ha2
        omega
      have hll4 : (Um.lit (Um.num wd us) ((ds.length * wd + 7) / 8)).length = (ds.length * wd + 7) / 8 := Um.lit_len _ _
      have hl2b : (l2 ++ [Um.bt (wd : Nat)]).length ≤ 100000020 := by rw [List.length_append]; simp; omega
      have HLM2 : Hid _ := HLM.out
      clear HLM HPW
      generalize (ds.length * wd + 7) / 8 = nb at *
      generalize Um.lit (Um.num wd us) nb = m4 at *
      generalize l2 ++ [Um.bt (wd : Nat)] = l3 at *
      have hl4' : ∀ j u, (cellsOf m4)[j]? = some u → w4.cell? ((⟨g, 0, none⟩ : Addr).add j) = some u := fun j u hu => by
        obtain ⟨hj, e⟩ := List.getElem?_eq_some_iff.1 hu
        obtain ⟨b', o', e', hc⟩ := hl4 j hj
        obtain ⟨rfl, rfl⟩ : g = b' ∧ 0 = o' := by simpa using e'
        rw [addr_add, hc, e]
      obtain ⟨v5, w5, hr5, hown5, hgrow5⟩ := appM_slice w4 B 80 v3 l3 m4 hown4 ⟨g, 0, none⟩ nb hl4' (by omega) (Nat.le_trans hB hbB4.size)
      rw [hll4] at hr5
      have hb5 := OwnM.below hbB4 hB hown4 hgrow5
      have S5 : Stand w w5 := S4.trans (hown4.stand hgrow5)
      rw [← HLM2.out] at hown5
      have HR : Hid (RetAB B (l ++ bb) w (.returned v5) w5) := ⟨v5, rfl, hown5, hb5, S5⟩
      clear hown5 hgrow5 S5 hb5 S4 hbB4 hown4 hl4 hl4' L3 S3 hb3 hown3
      go_wp2_with (at_builtin; refine Lib.wpList_append_run _ rfl _ _ 80 80 rfl _ _ rfl rfl _ _ hr5 ?_)
      go_ret
      exact HR.out
end Go.Proofs.YtjcmnngaecoddaaGreatDoor
