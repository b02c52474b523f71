/-
  data.Check: exact: groups, lists, and all of it.
-/
import Derived.Test.YtmfijliladancaaGreatDoorXChkD
import Derived.Deep.RegionLaw
import Derived.RegionTactic
namespace Go.Proofs.YtmfijliladancaaGreatDoor
open Go.RowKit
mutual
theorem chk_le : ∀ (d : Dt) (one : Bool) (t : Tr), chk one t d ≤ 3
  | .mk no v l f, one, t => by
    rw [chk]
    split
    · split
      · omega
      · split
        · omega
        · exact chkL_le l t
    · split
      · split <;> omega
      · split
        · split
          · omega
          · exact chkF_le f t.sub
        · split
          · omega
          · split <;> omega
theorem chkL_le : ∀ (ds : List Dt) (t : Tr), chkL t ds ≤ 3
  | [], t => by rw [chkL]; omega
  | d :: ds, t => by
    rw [chkL]
    split
    · exact chkL_le ds t
    · exact chk_le d true t
theorem chkF_le : ∀ (ds : List Dt) (ts : List Tr), chkF ts ds ≤ 3
  | [], ts => by cases ts <;> (rw [chkF]; omega)
  | d :: ds, [] => by rw [chkF]; omega
  | d :: ds, t :: ts => by
    rw [chkF]
    split
    · exact chkF_le ds ts
    · exact chk_le d false t
end
theorem erV_cases (eb es ek : TypeId × Value) (m : Nat) (h : m ≤ 3) : (m = 0 ∧ erV eb es ek m = .nilIface) ∨ (m ≠ 0 ∧ ∃ ty p, erV eb es ek m = .iface ty p) := by
  have hm : m = 0 ∨ m = 1 ∨ m = 2 ∨ m = 3 := by omega
  rcases hm with rfl | rfl | rfl | rfl
  · exact .inl ⟨rfl, rfl⟩
  · exact .inr ⟨by omega, _, _, rfl⟩
  · exact .inr ⟨by omega, _, _, rfl⟩
  · exact .inr ⟨by omega, _, _, rfl⟩
def noneEr (v : Vl) (nl nf : Nat) : Nat := if (hasV v || decide (0 < nl) || decide (0 < nf)) = true then 2 else 0
def grpEr (no : Bool) (v : Vl) (nl : Nat) (ts : List Tr) (fs : List Dt) : Nat := if (no || hasV v || decide (0 < nl) || !decide (fs.length = ts.length)) = true then 2 else chkF ts fs
def lstEr (no : Bool) (v : Vl) (t : Tr) (ls : List Dt) (nf : Nat) : Nat := if 40 < ls.length then 1 else if (no || hasV v || decide (0 < nf)) = true then 2 else chkL t ls
set_option maxRecDepth 100000 in
set_option maxHeartbeats 1600000 in
theorem checkNone_any (eb es ek : TypeId × Value) (no : Bool) (k n : Int) (s : ByteArray) (al : Option Addr) (nl cl : Nat) (af : Option Addr) (nf cf : Nat) (W : World) (he : EC W eb es ek) :
    Calls Tryz.prog 36 #[.agg #[.bool no, .int .i64 k, .int .i64 n, .string s, .slice al nl cl, .slice af nf cf]] W fun e w' => e = .returned (erV eb es ek (noneEr ⟨k, n, s⟩ nl nf)) ∧ Below W.heap.size W w' := by
  have HB : Hid (Below W.heap.size W (W.alloc (.cells #[.bool no, .int .i64 k, .int .i64 n, .string s, .slice al nl cl, .slice af nf cf] 29))) := (Below.refl _ _).alloc (Nat.le_refl _) _
  have HY : Hid ((W.alloc (.cells #[.bool no, .int .i64 k, .int .i64 n, .string s, .slice al nl cl, .slice af nf cf] 29)).heap[W.heap.size]? = some (.cells #[.bool no, .int .i64 k, .int .i64 n, .string s, .slice al nl cl, .slice af nf cf] 29 (0, 0))) := heap_alloc_new W _
  have HEr : Hid (EC W eb es ek) := he
  obtain ⟨b0, H0⟩ : ∃ b0, Hid (hasV ⟨k, n, s⟩ = b0) := ⟨_, rfl⟩
  obtain ⟨b1, H1⟩ : ∃ b1, Hid (decide (0 < nl) = b1) := ⟨_, rfl⟩
  obtain ⟨b2, H2⟩ : ∃ b2, Hid (decide (0 < nf) = b2) := ⟨_, rfl⟩
  clear he
  go_enter Tryz.func36, Tryz.ntmps36
  go_wp2_with fail
  refine (hasValue_any no k n s al af nl cl nf cf _).mono ?_
  rw [H0.out]
  rintro e w1 ⟨rfl, hb1⟩
  have HB1 : Hid (Below W.heap.size W w1) := HB.out.trans (hb1.mono HB.out.size)
  have HY1 : Hid (w1.heap[W.heap.size]? = some (.cells #[.bool no, .int .i64 k, .int .i64 n, .string s, .slice al nl cl, .slice af nf cf] 29 (0, 0))) := blk_keep hb1 HY.out
  clear hb1
  cases b0 with
  | true =>
    have g1 := (HEr.out.keep HB1.out).s
    go_wp2
    go_ret
    exact ⟨by rw [noneEr, H0.out]; rfl, HB1.out⟩
  | false =>
    obtain ⟨d0, d1, d2, d3, d4, d5⟩ := row_six HY1.out
    go_wp2_with fail
    refine (hasElements_any no k n s al af nl cl nf cf _).mono ?_
    rw [H1.out]
    rintro e w2 ⟨rfl, hb2⟩
    have HB2 : Hid (Below W.heap.size W w2) := HB1.out.trans (hb2.mono HB1.out.size)
    have HY2 : Hid (w2.heap[W.heap.size]? = some (.cells #[.bool no, .int .i64 k, .int .i64 n, .string s, .slice al nl cl, .slice af nf cf] 29 (0, 0))) := blk_keep hb2 HY1.out
    clear hb2 d0 d1 d2 d3 d4 d5
    cases b1 with
    | true =>
      have g1 := (HEr.out.keep HB2.out).s
      go_wp2
      go_ret
      exact ⟨by rw [noneEr, H0.out, H1.out]; rfl, HB2.out⟩
    | false =>
      obtain ⟨d0, d1, d2, d3, d4, d5⟩ := row_six HY2.out
      go_wp2_with fail
      refine (hasFields_any no k n s al af nl cl nf cf _).mono ?_
      rw [H2.out]
      rintro e w3 ⟨rfl, hb3⟩
      have HB3 : Hid (Below W.heap.size W w3) := HB2.out.trans (hb3.mono HB2.out.size)
      clear hb3 d0 d1 d2 d3 d4 d5
      cases b2 with
      | true =>
        have g1 := (HEr.out.keep HB3.out).s
        go_wp2
        go_ret
        exact ⟨by rw [noneEr, H0.out, H1.out, H2.out]; rfl, HB3.out⟩
      | false =>
        go_wp2
        go_ret
        exact ⟨by rw [noneEr, H0.out, H1.out, H2.out]; rfl, HB3.out⟩
set_option maxRecDepth 100000 in
set_option maxHeartbeats 1600000 in
theorem checkGroup_of (eb es ek : TypeId × Value) (t : Tr) (a : Option Addr) (c : Nat) (no : Bool) (k n : Int) (s : ByteArray) (al : Option Addr) (nl cl : Nat) (af : Option Addr) (cf : Nat) (fs : List Dt) (hsm : t.sub.length ≤ 1048576) (P Q : Nat → Prop) (W : World) (he : EC W eb es ek) (hl : LiesN W P a t.sub) (hf : LiesD W Q af fs)
    (IH : Hid (∀ j (hj : j < fs.length) (hj' : j < t.sub.length), ChkP eb es ek 22 false t.sub[j] fs[j])) :
    Calls Tryz.prog 58 #[nodeV t a c, .agg #[.bool no, .int .i64 k, .int .i64 n, .string s, .slice al nl cl, .slice af fs.length cf]] W fun e w' => e = .returned (erV eb es ek (grpEr no ⟨k, n, s⟩ nl t.sub fs)) ∧ Below W.heap.size W w' := by
  have HB : Hid (Below W.heap.size W ((W.alloc (.cells #[.int .i64 t.id, .string t.nm, .int .i64 t.rep, .int .i64 t.kind, .slice a t.sub.length c] 24)).alloc (.cells #[.bool no, .int .i64 k, .int .i64 n, .string s, .slice al nl cl, .slice af fs.length cf] 29))) := ((Below.refl _ _).alloc (Nat.le_refl _) _).alloc (by simp) _
  have HX : Hid (((W.alloc (.cells #[.int .i64 t.id, .string t.nm, .int .i64 t.rep, .int .i64 t.kind, .slice a t.sub.length c] 24)).alloc (.cells #[.bool no, .int .i64 k, .int .i64 n, .string s, .slice al nl cl, .slice af fs.length cf] 29)).heap[W.heap.size]? = some (.cells #[.int .i64 t.id, .string t.nm, .int .i64 t.rep, .int .i64 t.kind, .slice a t.sub.length c] 24 (0, 0))) := blk_alloc (heap_alloc_new W _)
  have HY : Hid (((W.alloc (.cells #[.int .i64 t.id, .string t.nm, .int .i64 t.rep, .int .i64 t.kind, .slice a t.sub.length c] 24)).alloc (.cells #[.bool no, .int .i64 k, .int .i64 n, .string s, .slice al nl cl, .slice af fs.length cf] 29)).heap[W.heap.size + 1]? = some (.cells #[.bool no, .int .i64 k, .int .i64 n, .string s, .slice al nl cl, .slice af fs.length cf] 29 (0, 0))) := (by
    have h := heap_alloc_new (W.alloc (.cells #[.int .i64 t.id, .string t.nm, .int .i64 t.rep, .int .i64 t.kind, .slice a t.sub.length c] 24)) (.cells #[.bool no, .int .i64 k, .int .i64 n, .string s, .slice al nl cl, .slice af fs.length cf] 29)
    rwa [show (W.alloc (.cells #[.int .i64 t.id, .string t.nm, .int .i64 t.rep, .int .i64 t.kind, .slice a t.sub.length c] 24)).heap.size = W.heap.size + 1 by simp] at h)
  have HEr : Hid (EC W eb es ek) := he
  have HL : Hid (LiesN W P a t.sub) := hl
  have HD : Hid (LiesD W Q af fs) := hf
  obtain ⟨b0, H0⟩ : ∃ b0, Hid (hasV ⟨k, n, s⟩ = b0) := ⟨_, rfl⟩
  obtain ⟨b1, H1⟩ : ∃ b1, Hid (decide (0 < nl) = b1) := ⟨_, rfl⟩
  clear he hl hf
  unfold nodeV
  cases no with
  | true =>
    have g1 : ∀ o1 o2 : Obj, ((W.alloc o1).alloc o2).cell? ⟨2, 0, none⟩ = some (.iface es.1 es.2) := fun o1 o2 => (HEr.out.two o1 o2).s
    go_enter Tryz.func58, Tryz.ntmps58
    go_wp2
    go_ret
    exact ⟨by rw [grpEr]; rfl, HB.out⟩
  | false =>
    go_enter Tryz.func58, Tryz.ntmps58
    go_wp2_with fail
    refine (hasValue_any false k n s al af nl cl fs.length cf _).mono ?_
    rw [H0.out]
    rintro e w1 ⟨rfl, hb1⟩
    have HB1 : Hid (Below W.heap.size W w1) := HB.out.trans (hb1.mono HB.out.size)
    have HX1 : Hid (w1.heap[W.heap.size]? = some (.cells #[.int .i64 t.id, .string t.nm, .int .i64 t.rep, .int .i64 t.kind, .slice a t.sub.length c] 24 (0, 0))) := blk_keep hb1 HX.out
    have HY1 : Hid (w1.heap[W.heap.size + 1]? = some (.cells #[.bool false, .int .i64 k, .int .i64 n, .string s, .slice al nl cl, .slice af fs.length cf] 29 (0, 0))) := blk_keep hb1 HY.out
    clear hb1 HX HY
    cases b0 with
    | true =>
      have g1 := (HEr.out.keep HB1.out).s
      go_wp2
      go_ret
      exact ⟨by rw [grpEr, H0.out]; rfl, HB1.out⟩
    | false =>
      obtain ⟨d0, d1, d2, d3, d4, d5⟩ := row_six HY1.out
      go_wp2_with fail
      refine (hasElements_any false k n s al af nl cl fs.length cf _).mono ?_
      rw [H1.out]
      rintro e w2 ⟨rfl, hb2⟩
      have HB2 : Hid (Below W.heap.size W w2) := HB1.out.trans (hb2.mono HB1.out.size)
      have HX2 : Hid (w2.heap[W.heap.size]? = some (.cells #[.int .i64 t.id, .string t.nm, .int .i64 t.rep, .int .i64 t.kind, .slice a t.sub.length c] 24 (0, 0))) := blk_keep hb2 HX1.out
      have HY2 : Hid (w2.heap[W.heap.size + 1]? = some (.cells #[.bool false, .int .i64 k, .int .i64 n, .string s, .slice al nl cl, .slice af fs.length cf] 29 (0, 0))) := blk_keep hb2 HY1.out
      clear hb2 d0 d1 d2 d3 d4 d5 HX1 HY1
      obtain ⟨d0, d1, d2, d3, d4, d5⟩ := row_six HY2.out
      obtain ⟨⟨p0, p1, p2, p3, p4⟩, _⟩ := row_five HX2.out
      cases b1 with
      | true =>
        have g1 := (HEr.out.keep HB2.out).s
        go_wp2
        go_ret
        exact ⟨by rw [grpEr, H0.out, H1.out]; rfl, HB2.out⟩
      | false =>
        by_cases hn : fs.length = t.sub.length
        · have q : ((fs.length : Int) == (t.sub.length : Int)) = true := by simp [hn]
          have HE : Hid (grpEr false ⟨k, n, s⟩ nl t.sub fs = chkF t.sub fs) := (by show _ = _; rw [grpEr, H0.out, H1.out]; simp [hn])
          have HN : Hid (fs.length = t.sub.length) := hn
          clear hn
          go_wp2
          clear q
          generalize ((fs.length : Int) != (t.sub.length : Int)) = bq
          go_loopw [31] (fun x wr => ∃ i : Nat, i ≤ t.sub.length ∧ x = .int .i64 i ∧ Hid (chkF t.sub fs = chkF (t.sub.drop i) (fs.drop i)) ∧ Hid (Below W.heap.size W wr) ∧ Hid (wr.heap[W.heap.size]? = some (.cells #[.int .i64 t.id, .string t.nm, .int .i64 t.rep, .int .i64 t.kind, .slice a t.sub.length c] 24 (0, 0))) ∧ Hid (wr.heap[W.heap.size + 1]? = some (.cells #[.bool false, .int .i64 k, .int .i64 n, .string s, .slice al nl cl, .slice af fs.length cf] 29 (0, 0)))) (fun x _ => t.sub.length - (intOf x).toNat)
          case atStart => exact ⟨0, Nat.zero_le _, rfl, rfl, HB2, HX2, HY2⟩
          case round =>
            clear HB2 HX2 HY2 d0 d1 d2 d3 d4 d5 p0 p1 p2 p3 p4 HB HB1
            obtain ⟨i, hi, rfl, HA, HB, HX, HY⟩ := hrel
            by_cases hlt : i < t.sub.length
            · have hlt' : i < fs.length := by rw [HN.out]; exact hlt
              obtain ⟨b, o, a1, c1, ea, d0, d1, d2, d3, d4, hl1⟩ := (HL.out.keep HB.out).at_ i hlt
              subst ea
              obtain ⟨b', o', al1, cl1, af1, cf1, ea, ⟨e0, e1, e2, e3, e4, e5⟩, hd1, hd2⟩ := (HD.out.keep HB.out).at_ i hlt'
              subst ea
              have hb2 : Below wr.heap.size wr (wr.alloc (.cells #[.int .i64 t.sub[i].id, .string t.sub[i].nm, .int .i64 t.sub[i].rep, .int .i64 t.sub[i].kind, .slice a1 t.sub[i].sub.length c1] 24)) := (Below.refl _ _).alloc (Nat.le_refl _) _
              have HB2 : Hid _ := hb2
              have HCk : Hid _ := IH.out i hlt' hlt P Q a1 c1 al1 cl1 af1 cf1 (wr.alloc (.cells #[.int .i64 t.sub[i].id, .string t.sub[i].nm, .int .i64 t.sub[i].rep, .int .i64 t.sub[i].kind, .slice a1 t.sub[i].sub.length c1] 24)).drew ((HEr.out.keep HB.out).keep hb2.drew) ((hl1.keep hb2).stay (fun _ h _ => h) (fun _ _ _ => rfl)) ((hd1.keep hb2).stay (fun _ h _ => h) (fun _ _ _ => rfl)) ((hd2.keep hb2).stay (fun _ h _ => h) (fun _ _ _ => rfl))
              obtain ⟨m, hm⟩ : ∃ m, chk false t.sub[i] fs[i] = m := ⟨_, rfl⟩
              have hle := chk_le fs[i] false t.sub[i]
              have hst := chkF_drop t.sub fs i hlt' hlt
              rw [hm] at hle hst
              have HCk2 := HCk.out
              rw [hm] at HCk2
              have HCk2 : Hid _ := HCk2
              have HSt : Hid _ := hst
              have HLe : Hid _ := hle
              clear hst hle hm HCk hl1 hd1 hd2
              obtain ⟨x0, x1, x2, x3, x4, x5⟩ := row_six (blk_alloc (o' := (.cells #[.int .i64 t.sub[i].id, .string t.sub[i].nm, .int .i64 t.sub[i].rep, .int .i64 t.sub[i].kind, .slice a1 t.sub[i].sub.length c1] 24)) HY.out)
              have y0 := (hb2.cell (World.block_lt_of_cell? wr _ e0)).trans e0
              have y1 := (hb2.cell (World.block_lt_of_cell? wr _ e1)).trans e1
              have y2 := (hb2.cell (World.block_lt_of_cell? wr _ e2)).trans e2
              have y3 := (hb2.cell (World.block_lt_of_cell? wr _ e3)).trans e3
              have y4 := (hb2.cell (World.block_lt_of_cell? wr _ e4)).trans e4
              have y5 := (hb2.cell (World.block_lt_of_cell? wr _ e5)).trans e5
              clear hb2 e0 e1 e2 e3 e4 e5
              go_wp2_with fail
              go_region_law (go_simp; refine Calls.mono HCk2.out ?_; rintro e w3 ⟨rfl, hb3'⟩; have HB3 : Hid (Below wr.heap.size wr w3) := HB2.out.drew.trans (hb3'.mono HB2.out.size); clear hb3')
              all_goals
                have HB4 : Hid (Below W.heap.size W w3) := HB.out.trans (HB3.out.mono HB.out.size)
                have HX4 : Hid (w3.heap[W.heap.size]? = some (.cells #[.int .i64 t.id, .string t.nm, .int .i64 t.rep, .int .i64 t.kind, .slice (some ⟨b, o, none⟩) t.sub.length c] 24 (0, 0))) := blk_keep HB3.out HX.out
                have HY4 : Hid (w3.heap[W.heap.size + 1]? = some (.cells #[.bool false, .int .i64 k, .int .i64 n, .string s, .slice al nl cl, .slice (some ⟨b', o', none⟩) fs.length cf] 29 (0, 0))) := blk_keep HB3.out HY.out
                rcases erV_cases eb es ek m HLe.out with ⟨hm0, he0⟩ | ⟨hm0, ty, pp, he0⟩
                · have HN2 : Hid (chkF t.sub fs = chkF (t.sub.drop (i + 1)) (fs.drop (i + 1))) := (by show _ = _; rw [HA.out, HSt.out, if_pos hm0])
                  rw [he0]
                  clear he0 hm0
                  go_wp2
                  go_roundw
                  case rel => exact ⟨i + 1, by omega, by go_num, HN2, HB4, HX4, HY4⟩
                  case measure => simp [intOf]; omega
                · have HN2 : Hid (erV eb es ek (chkF t.sub fs) = .iface ty pp) := (by show _ = _; rw [HA.out, HSt.out, if_neg hm0]; exact he0)
                  rw [he0]
                  clear he0 hm0
                  go_wp2
                  go_ret
                  exact ⟨by rw [HE.out, HN2.out]; rfl, HB4.out⟩
            · obtain rfl : i = t.sub.length := by omega
              have HZ : Hid (chkF t.sub fs = 0) := (by
                show _ = _
                rw [HA.out, List.drop_length, ← HN.out, List.drop_length]
                rw [chkF])
              go_wp2
              go_ret
              exact ⟨by rw [HE.out, HZ.out]; rfl, HB.out⟩
        · have q : ((fs.length : Int) == (t.sub.length : Int)) = false := by rw [beq_eq_false_iff_ne]; omega
          have HE : Hid (grpEr false ⟨k, n, s⟩ nl t.sub fs = 2) := (by show _ = _; rw [grpEr, H0.out, H1.out]; simp [hn])
          have g1 := (HEr.out.keep HB2.out).s
          clear hn
          go_wp2
          go_ret
          exact ⟨by rw [HE.out]; rfl, HB2.out⟩
end Go.Proofs.YtmfijliladancaaGreatDoor
