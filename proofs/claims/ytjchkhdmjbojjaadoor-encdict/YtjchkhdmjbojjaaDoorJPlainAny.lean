/-
  enc.check and enc.Plain at a kind that is none; Plain at whatever values.
-/
import Derived.Test.YtjchkhdmjbojjaaDoorJWordsMath
namespace Go.Proofs.YtjchkhdmjbojjaaDoor
open Go.RowKit
set_option maxRecDepth 100000 in
theorem checkE_kind (a : Option Addr) (n c : Nat) (kd : Int) (w : World) (kt : TypeId) (kp : Value) (_hn : n ≤ 20000) (hgk : w.cell? ⟨2, 0, none⟩ = some (.iface kt kp)) (hk : ¬ (1 ≤ kd ∧ kd ≤ 5)) :
    Calls Tryd.prog 24 #[.int .i64 kd, .slice a n c] w fun e w' => e = .returned (.iface kt kp) ∧ w' = w := by
  have HK : Hid _ := hgk
  have HN : Hid (¬ (1 ≤ kd ∧ kd ≤ 5)) := hk
  clear hgk hk
  go_enter Tryd.func24, Tryd.ntmps24
  go_wp2_with fail
  refine (checkCount_kind _ _ _ _ HK.out HN.out).mono ?_
  rintro e w1 ⟨rfl, hw⟩
  obtain rfl := hw.symm
  go_wp2_with fail
  go_ret
  exact ⟨rfl, rfl⟩
set_option maxRecDepth 100000 in
theorem plain_kind (a : Option Addr) (n c : Nat) (kd : Int) (w : World) (kt : TypeId) (kp : Value) (hn : n ≤ 20000) (hgk : w.cell? ⟨2, 0, none⟩ = some (.iface kt kp)) (hk : ¬ (1 ≤ kd ∧ kd ≤ 5)) :
    Calls Tryd.prog 15 #[.int .i64 kd, .slice a n c] w fun e w' => e = .returned (.tuple #[.string ⟨#[]⟩, .iface kt kp]) ∧ w' = w := by
  have HK : Hid _ := hgk
  have HN : Hid (¬ (1 ≤ kd ∧ kd ≤ 5)) := hk
  clear hgk hk
  go_enter Tryd.func15, Tryd.ntmps15
  go_wp2_with fail
  refine (checkE_kind a n c kd w kt kp hn HK.out HN.out).mono ?_
  rintro e w1 ⟨rfl, hw⟩
  obtain rfl := hw.symm
  go_wp2_with fail
  go_ret2
  exact ⟨rfl, rfl⟩
/-- The first value that is not of the kind. -/
theorem first_bad (kd : Int) (vs : List Vl) (h : ¬ ∀ v ∈ vs, v.Ok kd) : ∃ i, ∃ hi : i < vs.length, ¬ vs[i].Ok kd ∧ ∀ j (h : j < vs.length), j < i → vs[j].Ok kd := by
  induction vs with
  | nil => exact absurd (fun v hv => by simp at hv) h
  | cons v vs ih =>
    by_cases hv : v.Ok kd
    · have h2 : ¬ ∀ u ∈ vs, u.Ok kd := fun hall => h fun u hu => by
        rcases List.mem_cons.1 hu with rfl | hu
        · exact hv
        · exact hall u hu
      obtain ⟨i, hi, hb, hf⟩ := ih h2
      refine ⟨i + 1, by simpa using hi, by simpa using hb, fun j hj hji => ?_⟩
      cases j with
      | zero => simpa using hv
      | succ j => simpa using hf j (by simpa using hj) (by omega)
    · exact ⟨0, by simp, by simpa using hv, fun j _ hji => absurd hji (by omega)⟩
/-- What Plain answers: the bytes of right values, or an error. -/
def RetPl (kd : Int) (vs : List Vl) (e : Ending) : Prop :=
  (Right kd vs ∧ e = .returned (.tuple #[.string ⟨(plainB kd vs).toArray⟩, .nilIface])) ∨ (¬ Right kd vs ∧ ∃ t p, e = .returned (.tuple #[.string ⟨#[]⟩, .iface t p]))
theorem plain_any (a : Option Addr) (vs : List Vl) (c : Nat) (kd : Int) (w : World) (kt st : TypeId) (kp sp : Value) (hgk : w.cell? ⟨2, 0, none⟩ = some (.iface kt kp)) (hgs : w.cell? ⟨1, 0, none⟩ = some (.iface st sp)) (hn : vs.length ≤ 20000) (hl : LiesV w a vs) (hx : ∀ v ∈ vs, v.In) :
    Calls Tryd.prog 15 #[.int .i64 kd, .slice a vs.length c] w fun e w' => RetPl kd vs e ∧ Below w.heap.size w w' := by
  by_cases hk : 1 ≤ kd ∧ kd ≤ 5
  · by_cases hok : ∀ v ∈ vs, v.Ok kd
    · refine (plain_right a vs c kd w kt st kp sp hgk hgs hn hk.1 hk.2 hl (fun j h => hok _ (List.getElem_mem h)) (fun j h => (hx _ (List.getElem_mem h)).2.1)).mono ?_
      rintro e w' ⟨rfl, hb⟩
      exact ⟨Or.inl ⟨⟨hk, fun v hv => ⟨hok v hv, hx v hv⟩⟩, rfl⟩, hb⟩
    · obtain ⟨i, hi, hbad, hf⟩ := first_bad kd vs hok
      refine (plain_fault a vs c kd w kt kp hgk hn hk.1 hk.2 hl i hi hbad hf).mono ?_
      rintro e w' ⟨⟨p, rfl, _, _⟩, hb⟩
      exact ⟨Or.inr ⟨fun h => hok fun v hv => (h.2 v hv).1, _, _, rfl⟩, hb⟩
  · refine (plain_kind a vs.length c kd w kt kp hn hgk hk).mono ?_
    rintro e w' ⟨rfl, rfl⟩
    exact ⟨Or.inr ⟨fun h => hk h.1, _, _, rfl⟩, Below.refl _ _⟩
end Go.Proofs.YtjchkhdmjbojjaaDoor
