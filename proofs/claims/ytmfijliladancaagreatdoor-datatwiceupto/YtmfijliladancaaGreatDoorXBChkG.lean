/-
  data.Check: exact: lists, and all of it.
  data.Check: exact: all of it.
-/
import Derived.Test.YtmfijliladancaaGreatDoorXChkE
namespace Go.Proofs.YtmfijliladancaaGreatDoor
open Go.RowKit
set_option maxRecDepth 100000 in
set_option maxHeartbeats 1600000 in
theorem checkList_of (eb es ek : TypeId × Value) (t : Tr) (a : Option Addr) (c : Nat) (no : Bool) (k n : Int) (s : ByteArray) (al : Option Addr) (cl : Nat) (ls : List Dt) (af : Option Addr) (nf cf : Nat) (hsm : ls.length ≤ 1048576) (P Q : Nat → Prop) (W : World) (he : EC W eb es ek) (hl : LiesN W P a t.sub) (hf : LiesD W Q al ls)
    (IH : Hid (∀ j (hj : j < ls.length), ChkP eb es ek 37 true t ls[j])) :
    Calls Tryz.prog 35 #[nodeV t a c, .agg #[.bool no, .int .i64 k, .int .i64 n, .string s, .slice al ls.length cl, .slice af nf cf]] W fun e w' => e = .returned (erV eb es ek (lstEr no ⟨k, n, s⟩ t ls nf)) ∧ Below W.heap.size W w' := by
  have HB : Hid (Below W.heap.size W ((W.alloc (.cells #[.int .i64 t.id, .string t.nm, .int .i64 t.rep, .int .i64 t.kind, .slice a t.sub.length c] 24)).alloc (.cells #[.bool no, .int .i64 k, .int .i64 n, .string s, .slice al ls.length cl, .slice af nf cf] 29))) := ((Below.refl _ _).alloc (Nat.le_refl _) _).alloc (by simp) _
  have HX : Hid (((W.alloc (.cells #[.int .i64 t.id, .string t.nm, .int .i64 t.rep, .int .i64 t.kind, .slice a t.sub.length c] 24)).alloc (.cells #[.bool no, .int .i64 k, .int .i64 n, .string s, .slice al ls.length cl, .slice af nf cf] 29)).heap[W.heap.size]? = some (.cells #[.int .i64 t.id, .string t.nm, .int .i64 t.rep, .int .i64 t.kind, .slice a t.sub.length c] 24 (0, 0))) := blk_alloc (heap_alloc_new W _)
  have HY : Hid (((W.alloc (.cells #[.int .i64 t.id, .string t.nm, .int .i64 t.rep, .int .i64 t.kind, .slice a t.sub.length c] 24)).alloc (.cells #[.bool no, .int .i64 k, .int .i64 n, .string s, .slice al ls.length cl, .slice af nf cf] 29)).heap[W.heap.size + 1]? = some (.cells #[.bool no, .int .i64 k, .int .i64 n, .string s, .slice al ls.length cl, .slice af nf cf] 29 (0, 0))) := (by
    have h := heap_alloc_new (W.alloc (.cells #[.int .i64 t.id, .string t.nm, .int .i64 t.rep, .int .i64 t.kind, .slice a t.sub.length c] 24)) (.cells #[.bool no, .int .i64 k, .int .i64 n, .string s, .slice al ls.length cl, .slice af nf cf] 29)
    rwa [show (W.alloc (.cells #[.int .i64 t.id, .string t.nm, .int .i64 t.rep, .int .i64 t.kind, .slice a t.sub.length c] 24)).heap.size = W.heap.size + 1 by simp] at h)
  have HEr : Hid (EC W eb es ek) := he
  have HL : Hid (LiesN W P a t.sub) := hl
  have HD : Hid (LiesD W Q al ls) := hf
  obtain ⟨b0, H0⟩ : ∃ b0, Hid (hasV ⟨k, n, s⟩ = b0) := ⟨_, rfl⟩
  obtain ⟨b1, H1⟩ : ∃ b1, Hid (decide (0 < nf) = b1) := ⟨_, rfl⟩
  have g1 : ∀ o1 o2 : Obj, ((W.alloc o1).alloc o2).cell? ⟨0, 0, none⟩ = some (.iface eb.1 eb.2) := fun o1 o2 => (HEr.out.two o1 o2).b
  have g2 : ∀ o1 o2 : Obj, ((W.alloc o1).alloc o2).cell? ⟨2, 0, none⟩ = some (.iface es.1 es.2) := fun o1 o2 => (HEr.out.two o1 o2).s
  clear he hl hf
  unfold nodeV
  by_cases h40 : 40 < ls.length
  · have HE : Hid (lstEr no ⟨k, n, s⟩ t ls nf = 1) := (by show _ = _; rw [lstEr, if_pos h40])
    have q : decide ((40 : Int) < (ls.length : Int)) = true := by simp; omega
    go_enter Tryz.func35, Tryz.ntmps35
    go_wp2
    go_ret
    exact ⟨by rw [HE.out]; rfl, HB.out⟩
  · have q : decide ((40 : Int) < (ls.length : Int)) = false := by simp; omega
    have HE0 : Hid (lstEr no ⟨k, n, s⟩ t ls nf = if (no || hasV ⟨k, n, s⟩ || decide (0 < nf)) = true then 2 else chkL t ls) := (by show _ = _; rw [lstEr, if_neg h40])
    cases no with
    | true =>
      go_enter Tryz.func35, Tryz.ntmps35
      go_wp2
      go_ret
      exact ⟨by rw [HE0.out]; rfl, HB.out⟩
    | false =>
      clear g1 g2
      go_enter Tryz.func35, Tryz.ntmps35
      go_wp2_with fail
      refine (hasValue_any false k n s al af ls.length cl nf cf _).mono ?_
      rw [H0.out]
      rintro e w1 ⟨rfl, hb1⟩
      have HB1 : Hid (Below W.heap.size W w1) := HB.out.trans (hb1.mono HB.out.size)
      have HX1 : Hid (w1.heap[W.heap.size]? = some (.cells #[.int .i64 t.id, .string t.nm, .int .i64 t.rep, .int .i64 t.kind, .slice a t.sub.length c] 24 (0, 0))) := blk_keep hb1 HX.out
      have HY1 : Hid (w1.heap[W.heap.size + 1]? = some (.cells #[.bool false, .int .i64 k, .int .i64 n, .string s, .slice al ls.length cl, .slice af nf cf] 29 (0, 0))) := blk_keep hb1 HY.out
      clear hb1 HX HY
      cases b0 with
      | true =>
        have g1 := (HEr.out.keep HB1.out).s
        go_wp2
        go_ret
        exact ⟨by rw [HE0.out, H0.out]; rfl, HB1.out⟩
      | false =>
        obtain ⟨d0, d1, d2, d3, d4, d5⟩ := row_six HY1.out
        go_wp2_with fail
        refine (hasFields_any false k n s al af ls.length cl nf cf _).mono ?_
        rw [H1.out]
        rintro e w2 ⟨rfl, hb2⟩
        have HB2 : Hid (Below W.heap.size W w2) := HB1.out.trans (hb2.mono HB1.out.size)
        have HX2 : Hid (w2.heap[W.heap.size]? = some (.cells #[.int .i64 t.id, .string t.nm, .int .i64 t.rep, .int .i64 t.kind, .slice a t.sub.length c] 24 (0, 0))) := blk_keep hb2 HX1.out
        have HY2 : Hid (w2.heap[W.heap.size + 1]? = some (.cells #[.bool false, .int .i64 k, .int .i64 n, .string s, .slice al ls.length cl, .slice af nf cf] 29 (0, 0))) := blk_keep hb2 HY1.out
        clear hb2 d0 d1 d2 d3 d4 d5 HX1 HY1
        obtain ⟨d0, d1, d2, d3, d4, d5⟩ := row_six HY2.out
        cases b1 with
        | true =>
          have g1 := (HEr.out.keep HB2.out).s
          go_wp2
          go_ret
          exact ⟨by rw [HE0.out, H0.out, H1.out]; rfl, HB2.out⟩
        | false =>
          have HE : Hid (lstEr false ⟨k, n, s⟩ t ls nf = chkL t ls) := (by show _ = _; rw [HE0.out, H0.out, H1.out]; rfl)
          go_wp2
          clear q
          generalize (decide ((40 : Int) < (ls.length : Int))) = bq
          go_loopw [27] (fun x wr => ∃ i : Nat, i ≤ ls.length ∧ x = .int .i64 i ∧ Hid (chkL t ls = chkL t (ls.drop i)) ∧ Hid (Below W.heap.size W wr) ∧ Hid (wr.heap[W.heap.size]? = some (.cells #[.int .i64 t.id, .string t.nm, .int .i64 t.rep, .int .i64 t.kind, .slice a t.sub.length c] 24 (0, 0))) ∧ Hid (wr.heap[W.heap.size + 1]? = some (.cells #[.bool false, .int .i64 k, .int .i64 n, .string s, .slice al ls.length cl, .slice af nf cf] 29 (0, 0)))) (fun x _ => ls.length - (intOf x).toNat)
          case atStart => exact ⟨0, Nat.zero_le _, rfl, rfl, HB2, HX2, HY2⟩
          case round =>
            clear HB2 HX2 HY2 d0 d1 d2 d3 d4 d5 HB HB1
            obtain ⟨i, hi, rfl, HA, HB, HX, HY⟩ := hrel
            by_cases hlt : i < ls.length
            · obtain ⟨b', o', al1, cl1, af1, cf1, ea, ⟨e0, e1, e2, e3, e4, e5⟩, hd1, hd2⟩ := (HD.out.keep HB.out).at_ i hlt
              subst ea
              have hb2 : Below wr.heap.size wr (wr.alloc (.cells #[.bool ls[i].no, .int .i64 ls[i].v.k, .int .i64 ls[i].v.n, .string ls[i].v.s, .slice al1 ls[i].l.length cl1, .slice af1 ls[i].f.length cf1] 29)) := (Below.refl _ _).alloc (Nat.le_refl _) _
              have HB2 : Hid _ := hb2
              have HCk2 := IH.out i hlt P Q a c al1 cl1 af1 cf1 (wr.alloc (.cells #[.bool ls[i].no, .int .i64 ls[i].v.k, .int .i64 ls[i].v.n, .string ls[i].v.s, .slice al1 ls[i].l.length cl1, .slice af1 ls[i].f.length cf1] 29)) ((HEr.out.keep HB.out).keep hb2) ((HL.out.keep HB.out).keep hb2) (hd1.keep hb2) (hd2.keep hb2)
              obtain ⟨m, hm⟩ : ∃ m, chk true t ls[i] = m := ⟨_, rfl⟩
              have hle := chk_le ls[i] true t
              have hst := chkL_drop t ls i hlt
              rw [hm] at hle hst HCk2
              have HCk2 : Hid _ := HCk2
              have HSt : Hid _ := hst
              have HLe : Hid _ := hle
              clear hst hle hm hd1 hd2
              obtain ⟨⟨p0, p1, p2, p3, p4⟩, _⟩ := row_five (blk_alloc (o' := (.cells #[.bool ls[i].no, .int .i64 ls[i].v.k, .int .i64 ls[i].v.n, .string ls[i].v.s, .slice al1 ls[i].l.length cl1, .slice af1 ls[i].f.length cf1] 29)) HX.out)
              clear hb2
              go_wp2_with fail
              refine Calls.mono HCk2.out ?_
              rintro e w3 ⟨rfl, hb3'⟩
              have HB3 : Hid (Below wr.heap.size wr w3) := HB2.out.trans (hb3'.mono HB2.out.size)
              clear hb3'
              have HB4 : Hid (Below W.heap.size W w3) := HB.out.trans (HB3.out.mono HB.out.size)
              have HX4 : Hid (w3.heap[W.heap.size]? = some (.cells #[.int .i64 t.id, .string t.nm, .int .i64 t.rep, .int .i64 t.kind, .slice a t.sub.length c] 24 (0, 0))) := blk_keep HB3.out HX.out
              have HY4 : Hid (w3.heap[W.heap.size + 1]? = some (.cells #[.bool false, .int .i64 k, .int .i64 n, .string s, .slice (some ⟨b', o', none⟩) ls.length cl, .slice af nf cf] 29 (0, 0))) := blk_keep HB3.out HY.out
              rcases erV_cases eb es ek m HLe.out with ⟨hm0, he0⟩ | ⟨hm0, ty, pp, he0⟩
              · have HN2 : Hid (chkL t ls = chkL t (ls.drop (i + 1))) := (by show _ = _; rw [HA.out, HSt.out, if_pos hm0])
                rw [he0]
                clear he0 hm0
                go_wp2
                go_roundw
                case rel => exact ⟨i + 1, by omega, by go_num, HN2, HB4, HX4, HY4⟩
                case measure => simp [intOf]; omega
              · have HN2 : Hid (erV eb es ek (chkL t ls) = .iface ty pp) := (by show _ = _; rw [HA.out, HSt.out, if_neg hm0]; exact he0)
                rw [he0]
                clear he0 hm0
                go_wp2
                go_ret
                exact ⟨by rw [HE.out, HN2.out]; rfl, HB4.out⟩
            · obtain rfl : i = ls.length := by omega
              have HZ : Hid (chkL t ls = 0) := (by show _ = _; rw [HA.out, List.drop_length]; rw [chkL])
              go_wp2
              go_ret
              exact ⟨by rw [HE.out, HZ.out]; rfl, HB.out⟩
end Go.Proofs.YtmfijliladancaaGreatDoor

namespace Go.Proofs.YtmfijliladancaaGreatDoor
open Go.RowKit
theorem chk_leaf (t : Tr) (d : Dt) (hk : t.kind ≠ 0) : chk true t d = leafEr d.no d.l.length d.f.length d.v.k t.kind d.v.n d.v.s.size := by
  rw [chk_eq, if_neg (by simp), if_neg (by simp), if_neg hk, leafEr]
theorem chk_group (t : Tr) (d : Dt) (hk : t.kind = 0) : chk true t d = grpEr d.no d.v d.l.length t.sub d.f := by
  rw [chk_eq, if_neg (by simp), if_neg (by simp), if_pos hk, grpEr]
theorem chk_list (t : Tr) (d : Dt) (hr : t.rep = 3) : chk false t d = lstEr d.no d.v t d.l d.f.length := by
  rw [chk_eq, if_pos ⟨rfl, hr⟩, lstEr]
theorem chk_none (t : Tr) (d : Dt) (hr : t.rep = 2) (hn : d.no = true) : chk false t d = noneEr d.v d.l.length d.f.length := by
  rw [chk_eq, if_neg (by omega), if_pos ⟨rfl, hr, hn⟩, noneEr]
theorem chk_one (t : Tr) (d : Dt) (h3 : t.rep ≠ 3) (h2 : ¬ (t.rep = 2 ∧ d.no = true)) : chk false t d = chk true t d := by
  rw [chk_eq false t d, chk_eq true t d, if_neg (fun h => h3 h.2 : ¬ (false = false ∧ t.rep = 3)), if_neg (fun h => h2 h.2 : ¬ (false = false ∧ t.rep = 2 ∧ d.no = true)), if_neg (by simp : ¬ (true = false ∧ t.rep = 3)), if_neg (by simp : ¬ (true = false ∧ t.rep = 2 ∧ d.no = true))]
theorem Dt.sizeL (d : Dt) (j : Nat) (hj : j < d.l.length) : SizeOf.sizeOf d.l[j] < SizeOf.sizeOf d := by
  cases d with
  | mk no v l f =>
    have h := List.sizeOf_lt_of_mem (List.getElem_mem (l := l) (n := j) hj)
    show SizeOf.sizeOf l[j] < _
    simp only [Dt.mk.sizeOf_spec]
    omega
theorem Dt.sizeF (d : Dt) (j : Nat) (hj : j < d.f.length) : SizeOf.sizeOf d.f[j] < SizeOf.sizeOf d := by
  cases d with
  | mk no v l f =>
    have h := List.sizeOf_lt_of_mem (List.getElem_mem (l := f) (n := j) hj)
    show SizeOf.sizeOf f[j] < _
    simp only [Dt.mk.sizeOf_spec]
    omega
theorem Dt.Sm.lenL {d : Dt} (h : d.Sm) : d.l.length ≤ 1048576 := by cases h with | mk no v l f hs hl hf el ef => exact hl
theorem Dt.Sm.atL {d : Dt} (h : d.Sm) (j : Nat) (hj : j < d.l.length) : d.l[j].Sm := by cases h with | mk no v l f hs hl hf el ef => exact el j hj
theorem Dt.Sm.atF {d : Dt} (h : d.Sm) (j : Nat) (hj : j < d.f.length) : d.f[j].Sm := by cases h with | mk no v l f hs hl hf el ef => exact ef j hj
set_option maxRecDepth 100000 in
set_option maxHeartbeats 1600000 in
theorem checkOne_group (eb es ek : TypeId × Value) (t : Tr) (d : Dt) (hk : t.kind = 0) (r : Nat) (a : Option Addr) (c : Nat) (al : Option Addr) (cl : Nat) (af : Option Addr) (cf : Nat) (W : World)
    (HC : Hid (Calls Tryz.prog 58 #[nodeV t a c, datumV d al cl af cf] ((W.alloc (.cells #[.int .i64 t.id, .string t.nm, .int .i64 t.rep, .int .i64 t.kind, .slice a t.sub.length c] 24)).alloc (.cells #[.bool d.no, .int .i64 d.v.k, .int .i64 d.v.n, .string d.v.s, .slice al d.l.length cl, .slice af d.f.length cf] 29)) fun e w' => e = .returned (erV eb es ek r) ∧ Below ((W.alloc (.cells #[.int .i64 t.id, .string t.nm, .int .i64 t.rep, .int .i64 t.kind, .slice a t.sub.length c] 24)).alloc (.cells #[.bool d.no, .int .i64 d.v.k, .int .i64 d.v.n, .string d.v.s, .slice al d.l.length cl, .slice af d.f.length cf] 29)).heap.size ((W.alloc (.cells #[.int .i64 t.id, .string t.nm, .int .i64 t.rep, .int .i64 t.kind, .slice a t.sub.length c] 24)).alloc (.cells #[.bool d.no, .int .i64 d.v.k, .int .i64 d.v.n, .string d.v.s, .slice al d.l.length cl, .slice af d.f.length cf] 29)) w')) :
    Calls Tryz.prog 37 #[nodeV t a c, datumV d al cl af cf] W fun e w' => e = .returned (erV eb es ek r) ∧ Below W.heap.size W w' := by
  have HB : Hid (Below W.heap.size W ((W.alloc (.cells #[.int .i64 t.id, .string t.nm, .int .i64 t.rep, .int .i64 t.kind, .slice a t.sub.length c] 24)).alloc (.cells #[.bool d.no, .int .i64 d.v.k, .int .i64 d.v.n, .string d.v.s, .slice al d.l.length cl, .slice af d.f.length cf] 29))) := ((Below.refl _ _).alloc (Nat.le_refl _) _).alloc (by simp) _
  have qk : (t.kind == 0) = true := by simp [hk]
  clear hk
  unfold nodeV datumV
  go_enter Tryz.func37, Tryz.ntmps37
  go_wp2_with fail
  refine Calls.mono HC.out ?_
  rintro e w1 ⟨rfl, hb1⟩
  have HB1 : Hid (Below W.heap.size W w1) := HB.out.trans (hb1.mono HB.out.size)
  clear hb1
  go_wp2
  go_ret
  exact ⟨rfl, HB1.out⟩
set_option maxRecDepth 100000 in
set_option maxHeartbeats 1600000 in
theorem check_of (eb es ek : TypeId × Value) (t : Tr) (d : Dt)
    (H1 : Hid (ChkP eb es ek 37 true t d))
    (HL : Hid (∀ (P Q : Nat → Prop) (a : Option Addr) (c : Nat) (al : Option Addr) (cl : Nat) (af : Option Addr) (cf : Nat) (W : World), EC W eb es ek → LiesN W P a t.sub → LiesD W Q al d.l → Calls Tryz.prog 35 #[nodeV t a c, datumV d al cl af cf] W fun e w' => e = .returned (erV eb es ek (lstEr d.no d.v t d.l d.f.length)) ∧ Below W.heap.size W w')) :
    ChkP eb es ek 22 false t d := by
  intro P Q a c al cl af cf W he hl hd1 hd2
  have hb : Below W.heap.size W ((W.alloc (.cells #[.int .i64 t.id, .string t.nm, .int .i64 t.rep, .int .i64 t.kind, .slice a t.sub.length c] 24)).alloc (.cells #[.bool d.no, .int .i64 d.v.k, .int .i64 d.v.n, .string d.v.s, .slice al d.l.length cl, .slice af d.f.length cf] 29)) := ((Below.refl _ _).alloc (Nat.le_refl _) _).alloc (by simp) _
  have HB : Hid (Below W.heap.size W ((W.alloc (.cells #[.int .i64 t.id, .string t.nm, .int .i64 t.rep, .int .i64 t.kind, .slice a t.sub.length c] 24)).alloc (.cells #[.bool d.no, .int .i64 d.v.k, .int .i64 d.v.n, .string d.v.s, .slice al d.l.length cl, .slice af d.f.length cf] 29))) := hb
  have HO : Hid _ := H1.out P Q a c al cl af cf ((W.alloc (.cells #[.int .i64 t.id, .string t.nm, .int .i64 t.rep, .int .i64 t.kind, .slice a t.sub.length c] 24)).alloc (.cells #[.bool d.no, .int .i64 d.v.k, .int .i64 d.v.n, .string d.v.s, .slice al d.l.length cl, .slice af d.f.length cf] 29)) (he.keep hb) (hl.keep hb) (hd1.keep hb) (hd2.keep hb)
  have HLi : Hid _ := HL.out P Q a c al cl af cf ((W.alloc (.cells #[.int .i64 t.id, .string t.nm, .int .i64 t.rep, .int .i64 t.kind, .slice a t.sub.length c] 24)).alloc (.cells #[.bool d.no, .int .i64 d.v.k, .int .i64 d.v.n, .string d.v.s, .slice al d.l.length cl, .slice af d.f.length cf] 29)) (he.keep hb) (hl.keep hb) (hd1.keep hb)
  have HNo : Hid _ := checkNone_any eb es ek d.no d.v.k d.v.n d.v.s al d.l.length cl af d.f.length cf ((W.alloc (.cells #[.int .i64 t.id, .string t.nm, .int .i64 t.rep, .int .i64 t.kind, .slice a t.sub.length c] 24)).alloc (.cells #[.bool d.no, .int .i64 d.v.k, .int .i64 d.v.n, .string d.v.s, .slice al d.l.length cl, .slice af d.f.length cf] 29)) (he.keep hb)
  clear hl hd1 hd2 hb he H1 HL
  unfold nodeV datumV
  by_cases h3 : t.rep = 3
  · have HE : Hid _ := chk_list t d h3
    have q3 : (t.rep == 3) = true := by simp [h3]
    clear h3
    go_enter Tryz.func22, Tryz.ntmps22
    go_wp2_with fail
    refine Calls.mono HLi.out ?_
    rintro e w1 ⟨rfl, hb1⟩
    have HB1 : Hid (Below W.heap.size W w1) := HB.out.trans (hb1.mono HB.out.size)
    clear hb1
    go_wp2
    go_ret
    exact ⟨by rw [HE.out]; rfl, HB1.out⟩
  · have q3 : (t.rep == 3) = false := by simp [h3]
    by_cases h2 : t.rep = 2
    · have q2 : (t.rep == 2) = true := by simp [h2]
      obtain ⟨bn, hbn⟩ : ∃ bn, d.no = bn := ⟨_, rfl⟩
      cases bn with
      | true =>
        have HE : Hid _ := chk_none t d h2 hbn
        clear h2 h3
        rw [hbn] at HNo HB
        go_enter Tryz.func22, Tryz.ntmps22
        go_wp2_with fail
        refine Calls.mono HNo.out ?_
        rintro e w1 ⟨rfl, hb1⟩
        have HB1 : Hid (Below W.heap.size W w1) := HB.out.trans (hb1.mono HB.out.size)
        clear hb1
        go_wp2
        go_ret
        exact ⟨by rw [HE.out]; rfl, HB1.out⟩
      | false =>
        have HE : Hid _ := chk_one t d h3 (fun h => by rw [hbn] at h; simp at h)
        clear h2 h3
        unfold nodeV datumV at HO
        rw [hbn] at HO HB
        go_enter Tryz.func22, Tryz.ntmps22
        go_wp2_with fail
        refine Calls.mono HO.out ?_
        rintro e w1 ⟨rfl, hb1⟩
        have HB1 : Hid (Below W.heap.size W w1) := HB.out.trans (hb1.mono HB.out.size)
        clear hb1
        go_wp2
        go_ret
        exact ⟨by rw [HE.out]; rfl, HB1.out⟩
    · have q2 : (t.rep == 2) = false := by simp [h2]
      have HE : Hid _ := chk_one t d h3 (fun h => h2 h.1)
      clear h2 h3
      go_enter Tryz.func22, Tryz.ntmps22
      go_wp2_with fail
      refine Calls.mono HO.out ?_
      rintro e w1 ⟨rfl, hb1⟩
      have HB1 : Hid (Below W.heap.size W w1) := HB.out.trans (hb1.mono HB.out.size)
      clear hb1
      go_wp2
      go_ret
      exact ⟨by rw [HE.out]; rfl, HB1.out⟩
theorem check_all (eb es ek : TypeId × Value) : ∀ (n : Nat) (d : Dt), SizeOf.sizeOf d < n → d.Sm → ∀ t : Tr, t.Sm → ChkP eb es ek 37 true t d ∧ ChkP eb es ek 22 false t d
  | 0, d, h => absurd h (Nat.not_lt_zero _)
  | n + 1, d, hsz => fun hd t ht => by
    have h1 : ChkP eb es ek 37 true t d := by
      intro P Q a c al cl af cf W he hl hd1 hd2
      by_cases hk : t.kind = 0
      · rw [chk_group t d hk]
        refine checkOne_group eb es ek t d hk _ a c al cl af cf W ?_
        have hb : Below W.heap.size W ((W.alloc (.cells #[.int .i64 t.id, .string t.nm, .int .i64 t.rep, .int .i64 t.kind, .slice a t.sub.length c] 24)).alloc (.cells #[.bool d.no, .int .i64 d.v.k, .int .i64 d.v.n, .string d.v.s, .slice al d.l.length cl, .slice af d.f.length cf] 29)) := ((Below.refl _ _).alloc (Nat.le_refl _) _).alloc (by simp) _
        exact checkGroup_of eb es ek t a c d.no d.v.k d.v.n d.v.s al d.l.length cl af cf d.f ht.len P Q _ (he.keep hb) (hl.keep hb) (hd2.keep hb) (fun j hj hj' => (check_all eb es ek n d.f[j] (by have := d.sizeF j hj; omega) (hd.atF j hj) t.sub[j] (ht.at_ j hj')).2)
      · rw [chk_leaf t d hk]
        exact checkLeaf_any eb es ek t.id t.rep t.kind t.nm a t.sub.length c d.no d.v.k d.v.n d.v.s al d.l.length cl af d.f.length cf W he hk
    exact ⟨h1, check_of eb es ek t d h1 (fun P Q a c al cl af cf W he hl hd1 => checkList_of eb es ek t a c d.no d.v.k d.v.n d.v.s al cl d.l af d.f.length cf hd.lenL P Q W he hl hd1 (fun j hj => (check_all eb es ek n d.l[j] (by have := d.sizeL j hj; omega) (hd.atL j hj) t ht).1))⟩
set_option maxRecDepth 100000 in
set_option maxHeartbeats 1600000 in
/-- data.Check of a right schema. -/
theorem checkD_right (eb es ek en : TypeId × Value) (t : Tr) (d : Dt) (n : Nat) (hd : t.Dp n) (hn : n ≤ 1100000) (hs : t.Sm) (hds : d.Sm) (hv : vldN t = 0) (P Q : Nat → Prop) (a : Option Addr) (c : Nat) (hcap : t.sub.length ≤ c) (al : Option Addr) (cl : Nat) (af : Option Addr) (cf : Nat) (W : World) (he : EC W eb es ek) (hen : W.cell? ⟨3, 0, none⟩ = some (.iface en.1 en.2)) (hl : LiesN W P a t.sub) (hd1 : LiesD W Q al d.l) (hd2 : LiesD W Q af d.f) :
    Calls Tryz.prog 13 #[nodeV t a c, datumV d al cl af cf] W fun e w' => e = .returned (erV eb es ek (chk false t d)) ∧ Below W.heap.size W w' := by
  have hb : Below W.heap.size W ((W.alloc (.cells #[.int .i64 t.id, .string t.nm, .int .i64 t.rep, .int .i64 t.kind, .slice a t.sub.length c] 24)).alloc (.cells #[.bool d.no, .int .i64 d.v.k, .int .i64 d.v.n, .string d.v.s, .slice al d.l.length cl, .slice af d.f.length cf] 29)) := ((Below.refl _ _).alloc (Nat.le_refl _) _).alloc (by simp) _
  have HB : Hid (Below W.heap.size W ((W.alloc (.cells #[.int .i64 t.id, .string t.nm, .int .i64 t.rep, .int .i64 t.kind, .slice a t.sub.length c] 24)).alloc (.cells #[.bool d.no, .int .i64 d.v.k, .int .i64 d.v.n, .string d.v.s, .slice al d.l.length cl, .slice af d.f.length cf] 29))) := hb
  have HX : Hid (((W.alloc (.cells #[.int .i64 t.id, .string t.nm, .int .i64 t.rep, .int .i64 t.kind, .slice a t.sub.length c] 24)).alloc (.cells #[.bool d.no, .int .i64 d.v.k, .int .i64 d.v.n, .string d.v.s, .slice al d.l.length cl, .slice af d.f.length cf] 29)).heap[W.heap.size]? = some (.cells #[.int .i64 t.id, .string t.nm, .int .i64 t.rep, .int .i64 t.kind, .slice a t.sub.length c] 24 (0, 0))) := blk_alloc (heap_alloc_new W _)
  have HY : Hid (((W.alloc (.cells #[.int .i64 t.id, .string t.nm, .int .i64 t.rep, .int .i64 t.kind, .slice a t.sub.length c] 24)).alloc (.cells #[.bool d.no, .int .i64 d.v.k, .int .i64 d.v.n, .string d.v.s, .slice al d.l.length cl, .slice af d.f.length cf] 29)).heap[W.heap.size + 1]? = some (.cells #[.bool d.no, .int .i64 d.v.k, .int .i64 d.v.n, .string d.v.s, .slice al d.l.length cl, .slice af d.f.length cf] 29 (0, 0))) := (by
    have h := heap_alloc_new (W.alloc (.cells #[.int .i64 t.id, .string t.nm, .int .i64 t.rep, .int .i64 t.kind, .slice a t.sub.length c] 24)) (.cells #[.bool d.no, .int .i64 d.v.k, .int .i64 d.v.n, .string d.v.s, .slice al d.l.length cl, .slice af d.f.length cf] 29)
    rwa [show (W.alloc (.cells #[.int .i64 t.id, .string t.nm, .int .i64 t.rep, .int .i64 t.kind, .slice a t.sub.length c] 24)).heap.size = W.heap.size + 1 by simp] at h)
  have hvv : vldV (.iface eb.1 eb.2) (.iface es.1 es.2) (.iface en.1 en.2) t = .nilIface := vldV_nil hv
  have HV := valid_any t n hd hn hs a c P ((W.alloc (.cells #[.int .i64 t.id, .string t.nm, .int .i64 t.rep, .int .i64 t.kind, .slice a t.sub.length c] 24)).alloc (.cells #[.bool d.no, .int .i64 d.v.k, .int .i64 d.v.n, .string d.v.s, .slice al d.l.length cl, .slice af d.f.length cf] 29)) (hl.keep hb) hcap eb es en (he.keep hb).b (he.keep hb).s ((hb.cell (World.block_lt_of_cell? W _ hen)).trans hen)
  rw [hvv] at HV
  have HV : Hid _ := HV
  have HCk : Hid _ := (check_all eb es ek _ d (Nat.lt_succ_self _) hds t hs).2
  have HEr : Hid (EC W eb es ek) := he
  have HL : Hid (LiesN W P a t.sub) := hl
  have HD1 : Hid (LiesD W Q al d.l) := hd1
  have HD2 : Hid (LiesD W Q af d.f) := hd2
  clear hb he hen hl hd1 hd2 hd hs hds hv hvv
  unfold nodeV datumV
  go_enter Tryz.func13, Tryz.ntmps13
  go_wp2_with fail
  refine Calls.mono HV.out ?_
  rintro e w1 ⟨rfl, hb1⟩
  have HB1 : Hid (Below W.heap.size W w1) := HB.out.trans (hb1.mono HB.out.size)
  have HX1 : Hid (w1.heap[W.heap.size]? = some (.cells #[.int .i64 t.id, .string t.nm, .int .i64 t.rep, .int .i64 t.kind, .slice a t.sub.length c] 24 (0, 0))) := blk_keep hb1 HX.out
  have HY1 : Hid (w1.heap[W.heap.size + 1]? = some (.cells #[.bool d.no, .int .i64 d.v.k, .int .i64 d.v.n, .string d.v.s, .slice al d.l.length cl, .slice af d.f.length cf] 29 (0, 0))) := blk_keep hb1 HY.out
  clear hb1 HV
  obtain ⟨d0, d1, d2, d3, d4, d5⟩ := row_six HY1.out
  obtain ⟨⟨p0, p1, p2, p3, p4⟩, _⟩ := row_five HX1.out
  have HC : Hid _ := HCk.out P Q a c al cl af cf w1 (HEr.out.keep HB1.out) (HL.out.keep HB1.out) (HD1.out.keep HB1.out) (HD2.out.keep HB1.out)
  go_wp2_with fail
  refine Calls.mono HC.out ?_
  rintro e w2 ⟨rfl, hb2⟩
  have HB2 : Hid (Below W.heap.size W w2) := HB1.out.trans (hb2.mono HB1.out.size)
  clear hb2 d0 d1 d2 d3 d4 d5 p0 p1 p2 p3 p4
  go_wp2
  go_ret
  exact ⟨rfl, HB2.out⟩
end Go.Proofs.YtmfijliladancaaGreatDoor
