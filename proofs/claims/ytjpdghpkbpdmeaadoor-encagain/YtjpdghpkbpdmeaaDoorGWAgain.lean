/-
  The walk of the law EncAgain: what is read plain, by differences or by prefixes is written as the same bytes.
-/
import Derived.Test.YtjpdghpkbpdmeaaDoorGRdDelta
import Derived.Test.YtjpdghpkbpdmeaaDoorGRdPref
import Derived.Test.YtjpdghpkbpdmeaaDoorGBTyped
import Derived.Test.YtjpdghpkbpdmeaaDoorGBLaid4
namespace Go.Proofs.YtjpdghpkbpdmeaaDoor
open Go.RowKit
/-- What a reader's answer is good for: what it read is written as the same bytes by F, or it is an error. -/
def AgainV (F : List Value → Nat) (kd : Int) (s : ByteArray) (e : Ending) (w' : World) (tt bt st kt : TypeId) (tp bp sp kp : Value) : Prop :=
  (∃ a n c, e = .returned (.tuple #[.slice a n c, .nilIface]) ∧ ∀ W, Below w'.heap.size w' W → Four4 W tt bt st kt tp bp sp kp → Calls Tryd.prog (F []) #[.int .i64 kd, .slice a n c] W fun e W' => e = .returned (.tuple #[.string s, .nilIface]) ∧ Below W.heap.size W W') ∨ (∃ t p, e = .returned (.tuple #[.slice none 0 0, .iface t p]))
theorem againPlain (kd : Int) (s : ByteArray) (n : Int) (w : World) (tt bt st kt : TypeId) (tp bp sp kp : Value) (hE : Four4 w tt bt st kt tp bp sp kp) (hs : s.size ≤ 1000) (hn : n ≤ 300) :
    Calls Tryd.prog 20 #[.int .i64 kd, .string s, .int .i64 n] w fun e w' => AgainV (fun _ => 12) kd s e w' tt bt st kt tp bp sp kp ∧ Below w.heap.size w w' := by
  by_cases h : (1 ≤ kd ∧ kd ≤ 5) ∧ 0 ≤ n ∧ n ≤ 20000
  · obtain ⟨m, rfl⟩ : ∃ m : Nat, n = m := ⟨n.toNat, by omega⟩
    refine (readPlain_any kd s m w tt tp hE.text (by omega) (by omega) h.1.1 h.1.2).mono ?_
    rintro e w1 ⟨⟨vs, a, c, hI, rfl, hl⟩ | ⟨_, rfl⟩, hb⟩
    · refine ⟨Or.inl ⟨a, m, c, rfl, fun W hW hE' => ?_⟩, hb⟩
      obtain ⟨hv, hR, hB⟩ := hI
      subst hv
      have h2 := plain_right a vs c kd W kt st kp sp hE'.kind hE'.shape (by omega) h.1.1 h.1.2 (hl.keep hW) (fun j hj => (hR.2 _ (List.getElem_mem hj)).1) (fun j hj => (hR.2 _ (List.getElem_mem hj)).2.2.1)
      rw [bytes_to s _ hB] at h2
      exact h2
    · exact ⟨Or.inr ⟨_, _, rfl⟩, hb⟩
  · refine (readPlain_none kd s n w kt bt kp bp hE.kind hE.bound h).mono ?_
    rintro e w1 ⟨rfl, rfl⟩
    refine ⟨Or.inr ?_, Below.refl _ _⟩
    split
    · exact ⟨_, _, rfl⟩
    · exact ⟨_, _, rfl⟩
theorem againDelta (kd : Int) (s : ByteArray) (n : Int) (w : World) (tt bt st kt : TypeId) (tp bp sp kp : Value) (hE : Four4 w tt bt st kt tp bp sp kp) (hs : s.size ≤ 1000) (hn : n ≤ 300) :
    Calls Tryd.prog 25 #[.int .i64 kd, .string s, .int .i64 n] w fun e w' => AgainV (fun _ => 24) kd s e w' tt bt st kt tp bp sp kp ∧ Below w.heap.size w w' := by
  by_cases h : (1 ≤ kd ∧ kd ≤ 5) ∧ 0 ≤ n ∧ n ≤ 20000
  · obtain ⟨m, rfl⟩ : ∃ m : Nat, n = m := ⟨n.toNat, by omega⟩
    by_cases hk : kd = 2 ∨ kd = 3
    · refine (readDelta_any kd s m w tt kt tp kp hE.text hE.kind (by omega) (by omega) hk).mono ?_
      rintro e w1 ⟨⟨vs, a, c, hI, rfl, hl⟩ | ⟨_, rfl⟩, hb⟩
      · refine ⟨Or.inl ⟨a, m, c, rfl, fun W hW hE' => ?_⟩, hb⟩
        obtain ⟨xs, h1, h2, h3, h4, h5, h6⟩ := hI
        obtain rfl : vs.length = m := by rw [h3, kvs_len, h2]
        have hd := delta_right a vs c kd W kt kp hE'.kind (by omega) hk (hl.keep hW) h5 (fun j hj => by
          subst h3
          simp only [kvs, List.getElem_map]
          exact h4 _ (List.getElem_mem _))
        rw [bytes_to s _ h6] at hd
        exact hd
      · exact ⟨Or.inr ⟨_, _, rfl⟩, hb⟩
    · refine (readDelta_kind kd s m w kt kp hE.kind (by omega) h.1 hk).mono ?_
      rintro e w1 ⟨rfl, hb⟩
      exact ⟨Or.inr ⟨_, _, rfl⟩, hb⟩
  · refine (readDelta_none kd s n w kt bt kp bp hE.kind hE.bound h).mono ?_
    rintro e w1 ⟨rfl, rfl⟩
    refine ⟨Or.inr ?_, Below.refl _ _⟩
    split
    · exact ⟨_, _, rfl⟩
    · exact ⟨_, _, rfl⟩
def AgainS (s : ByteArray) (e : Ending) (w' : World) (tt bt st kt : TypeId) (tp bp sp kp : Value) : Prop :=
  (∃ a n c, e = .returned (.tuple #[.slice a n c, .nilIface]) ∧ ∀ W, Below w'.heap.size w' W → Four4 W tt bt st kt tp bp sp kp → Calls Tryd.prog 26 #[.slice a n c] W fun e W' => e = .returned (.tuple #[.string s, .nilIface]) ∧ Below W.heap.size W W') ∨ (∃ t p, e = .returned (.tuple #[.slice none 0 0, .iface t p]))
theorem againPrefix (s : ByteArray) (n : Int) (w : World) (tt bt st kt : TypeId) (tp bp sp kp : Value) (hE : Four4 w tt bt st kt tp bp sp kp) (hs : s.size ≤ 1000) (hn : n ≤ 300) :
    Calls Tryd.prog 29 #[.string s, .int .i64 n] w fun e w' => AgainS s e w' tt bt st kt tp bp sp kp ∧ Below w.heap.size w w' := by
  by_cases h : 0 ≤ n ∧ n ≤ 20000
  · obtain ⟨m, rfl⟩ : ∃ m : Nat, n = m := ⟨n.toNat, by omega⟩
    refine (readPrefix_any s m w tt tp hE.text (by omega) (by omega)).mono ?_
    rintro e w1 ⟨⟨ss, a, c, ho, rfl, hl⟩ | ⟨_, rfl⟩, hb⟩
    · refine ⟨Or.inl ⟨a, m, c, rfl, fun W hW hE' => ?_⟩, hb⟩
      obtain ⟨h1, h2, h3⟩ := Um.rdp_some _ _ _ _ ho
      subst h1
      have hbb : bys (ss.map mk) = ss := by simp [bys, Function.comp_def, mk_list]
      have hp := prefix_right a (ss.map mk) c W (.iface bt bp) hE'.bound (by simp; omega) (hl.keep hW) (fun t ht => by
        obtain ⟨l, hl, rfl⟩ := List.mem_map.1 ht
        exact h2 l hl)
      rw [hbb, bytes_to s _ h3, List.length_map] at hp
      exact hp
    · exact ⟨Or.inr ⟨_, _, rfl⟩, hb⟩
  · refine (readPrefix_none s n w bt bp hE.bound h).mono ?_
    rintro e w1 ⟨rfl, hb⟩
    exact ⟨Or.inr ⟨_, _, rfl⟩, hb⟩
set_option maxRecDepth 100000 in
set_option maxHeartbeats 6400000 in
theorem encAgain_walk (kd : Int) (s : ByteArray) (n : Int) (w : World) (tt bt st kt : TypeId) (tp bp sp kp : Value) (hE : Four4 w tt bt st kt tp bp sp kp) (hs : s.size ≤ 1000) (hn : n ≤ 300) :
    Calls Tryd.prog 8 #[.int .i64 kd, .string s, .int .i64 n] w fun e w' => e = .returned (.bool true) ∧ Below w.heap.size w w' := by
  have HE : Hid _ := hE
  have hs2 : decide (1000 < (s.size : Int)) = false := by simp; omega
  have hn2 : decide (300 < n) = false := by simp; omega
  clear hE
  go_enter Tryd.func8, Tryd.ntmps8
  go_wp2_with fail
  refine (four_any _ kt st kp sp HE.out.kind HE.out.shape).mono ?_
  rintro e w1 ⟨rfl, hb1⟩
  have HE1 : Hid _ := HE.out.keep hb1
  go_wp2_with fail
  refine (againPlain kd s n w1 tt bt st kt tp bp sp kp HE1.out hs hn).mono ?_
  rintro e w2 ⟨⟨a2, n2, c2, rfl, h2⟩ | ⟨t2, p2, rfl⟩, hb2⟩
  · have hb3 := hb1.trans (hb2.mono hb1.size)
    have HE2 : Hid _ := HE1.out.keep hb2
    have H2 : Hid _ := h2
    clear h2
    go_wp2_with fail
    refine (H2.out w2 (Below.refl _ _) HE2.out).mono ?_
    rintro e w3 ⟨rfl, hb23⟩
    have hb33 := hb3.trans (hb23.mono hb3.size)
    have HE3 : Hid _ := HE2.out.keep hb23
    go_wp2_with fail
    refine (againDelta kd s n w3 tt bt st kt tp bp sp kp HE3.out hs hn).mono ?_
    rintro e w4 ⟨⟨a4, n4, c4, rfl, h4⟩ | ⟨t4, p4, rfl⟩, hb4⟩
    · have hb5 := hb33.trans (hb4.mono hb33.size)
      have HE5 : Hid _ := HE3.out.keep hb4
      have H4 : Hid _ := h4
      clear h4
      go_wp2_with fail
      refine (H4.out w4 (Below.refl _ _) HE5.out).mono ?_
      rintro e w5 ⟨rfl, hb6⟩
      have hb7 := hb5.trans (hb6.mono hb5.size)
      have HE7 : Hid _ := HE5.out.keep hb6
      go_wp2_with fail
      refine (againPrefix s n w5 tt bt st kt tp bp sp kp HE7.out hs hn).mono ?_
      rintro e w8 ⟨⟨a8, n8, c8, rfl, h8⟩ | ⟨t8, p8, rfl⟩, hb8⟩
      · have hb9 := hb7.trans (hb8.mono hb7.size)
        have HE9 : Hid _ := HE7.out.keep hb8
        have H8 : Hid _ := h8
        clear h8
        go_wp2_with fail
        refine (H8.out w8 (Below.refl _ _) HE9.out).mono ?_
        rintro e w9 ⟨rfl, hb10⟩
        go_wp2
        go_ret
        exact ⟨rfl, hb9.trans (hb10.mono hb9.size)⟩
      · have hb9 := hb7.trans (hb8.mono hb7.size)
        go_wp2
        go_ret
        exact ⟨rfl, hb9⟩
    · have hb5 := hb33.trans (hb4.mono hb33.size)
      have HE5 : Hid _ := HE3.out.keep hb4
      go_wp2_with fail
      refine (againPrefix s n w4 tt bt st kt tp bp sp kp HE5.out hs hn).mono ?_
      rintro e w8 ⟨⟨a8, n8, c8, rfl, h8⟩ | ⟨t8, p8, rfl⟩, hb8⟩
      · have hb9 := hb5.trans (hb8.mono hb5.size)
        have HE9 : Hid _ := HE5.out.keep hb8
        have H8 : Hid _ := h8
        clear h8
        go_wp2_with fail
        refine (H8.out w8 (Below.refl _ _) HE9.out).mono ?_
        rintro e w9 ⟨rfl, hb10⟩
        go_wp2
        go_ret
        exact ⟨rfl, hb9.trans (hb10.mono hb9.size)⟩
      · have hb9 := hb5.trans (hb8.mono hb5.size)
        go_wp2
        go_ret
        exact ⟨rfl, hb9⟩
  · have hb3 := hb1.trans (hb2.mono hb1.size)
    have HE2 : Hid _ := HE1.out.keep hb2
    go_wp2_with fail
    refine (againDelta kd s n w2 tt bt st kt tp bp sp kp HE2.out hs hn).mono ?_
    rintro e w4 ⟨⟨a4, n4, c4, rfl, h4⟩ | ⟨t4, p4, rfl⟩, hb4⟩
    · have hb5 := hb3.trans (hb4.mono hb3.size)
      have HE5 : Hid _ := HE2.out.keep hb4
      have H4 : Hid _ := h4
      clear h4
      go_wp2_with fail
      refine (H4.out w4 (Below.refl _ _) HE5.out).mono ?_
      rintro e w5 ⟨rfl, hb6⟩
      have hb7 := hb5.trans (hb6.mono hb5.size)
      have HE7 : Hid _ := HE5.out.keep hb6
      go_wp2_with fail
      refine (againPrefix s n w5 tt bt st kt tp bp sp kp HE7.out hs hn).mono ?_
      rintro e w8 ⟨⟨a8, n8, c8, rfl, h8⟩ | ⟨t8, p8, rfl⟩, hb8⟩
      · have hb9 := hb7.trans (hb8.mono hb7.size)
        have HE9 : Hid _ := HE7.out.keep hb8
        have H8 : Hid _ := h8
        clear h8
        go_wp2_with fail
        refine (H8.out w8 (Below.refl _ _) HE9.out).mono ?_
        rintro e w9 ⟨rfl, hb10⟩
        go_wp2
        go_ret
        exact ⟨rfl, hb9.trans (hb10.mono hb9.size)⟩
      · have hb9 := hb7.trans (hb8.mono hb7.size)
        go_wp2
        go_ret
        exact ⟨rfl, hb9⟩
    · have hb5 := hb3.trans (hb4.mono hb3.size)
      have HE5 : Hid _ := HE2.out.keep hb4
      go_wp2_with fail
      refine (againPrefix s n w4 tt bt st kt tp bp sp kp HE5.out hs hn).mono ?_
      rintro e w8 ⟨⟨a8, n8, c8, rfl, h8⟩ | ⟨t8, p8, rfl⟩, hb8⟩
      · have hb9 := hb5.trans (hb8.mono hb5.size)
        have HE9 : Hid _ := HE5.out.keep hb8
        have H8 : Hid _ := h8
        clear h8
        go_wp2_with fail
        refine (H8.out w8 (Below.refl _ _) HE9.out).mono ?_
        rintro e w9 ⟨rfl, hb10⟩
        go_wp2
        go_ret
        exact ⟨rfl, hb9.trans (hb10.mono hb9.size)⟩
      · have hb9 := hb5.trans (hb8.mono hb5.size)
        go_wp2
        go_ret
        exact ⟨rfl, hb9⟩
set_option maxRecDepth 100000 in
set_option maxHeartbeats 1600000 in
theorem encAgain_none (kd : Int) (s : ByteArray) (n : Int) (w : World) (st kt : TypeId) (sp kp : Value) (hgk : w.cell? ⟨2, 0, none⟩ = some (.iface kt kp)) (hgs : w.cell? ⟨1, 0, none⟩ = some (.iface st sp)) (_hm : s.size ≤ maxLen) (h : 1000 < s.size ∨ 300 < n) :
    Calls Tryd.prog 8 #[.int .i64 kd, .string s, .int .i64 n] w fun e w' => e = .returned (.bool true) ∧ Below w.heap.size w w' := by
  by_cases h1 : 1000 < s.size
  · have hs2 : decide (1000 < (s.size : Int)) = true := by simp; omega
    go_enter Tryd.func8, Tryd.ntmps8
    go_wp2_with fail
    refine (four_any _ kt st kp sp hgk hgs).mono ?_
    rintro e w1 ⟨rfl, hb1⟩
    go_wp2
    go_ret
    exact ⟨rfl, hb1⟩
  · have hs2 : decide (1000 < (s.size : Int)) = false := by simp; omega
    have hn2 : decide (300 < n) = true := by simp; omega
    go_enter Tryd.func8, Tryd.ntmps8
    go_wp2_with fail
    refine (four_any _ kt st kp sp hgk hgs).mono ?_
    rintro e w1 ⟨rfl, hb1⟩
    go_wp2
    go_ret
    exact ⟨rfl, hb1⟩
theorem encAgain_top (kd : Int) (s : ByteArray) (n : Int) (w : World) (hm : s.size ≤ maxLen) (hL : laidMetH Tryd.prog Rows.encAgainRow.laid w) :
    Calls Tryd.prog 8 #[.int .i64 kd, .string s, .int .i64 n] w fun e w' => e = .returned (.bool true) ∧ Below w.heap.size w w' := by
  have hL' : laidMet Tryd.prog Rows.encAgainRow.laid w := hL
  obtain ⟨t, ht⟩ := text_of hL' (List.mem_of_getElem? (i := 0) rfl)
  obtain ⟨b, hb⟩ := bound_of hL' (List.mem_of_getElem? (i := 1) rfl)
  obtain ⟨c, hc⟩ := shape_of hL' (List.mem_of_getElem? (i := 2) rfl)
  obtain ⟨d, hd⟩ := kind_of hL' (List.mem_of_getElem? (i := 3) rfl)
  by_cases h : 1000 < s.size ∨ 300 < n
  · exact encAgain_none kd s n w _ _ _ _ hd hc hm h
  · exact encAgain_walk kd s n w _ _ _ _ _ _ _ _ ⟨ht, hb, hc, hd⟩ (by omega) (by omega)
end Go.Proofs.YtjpdghpkbpdmeaaDoor
