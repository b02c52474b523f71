/-
  A disk's Used.
-/
import Derived.Test.YtmpdkccmcnegkaaDoorIDkH
namespace Go.Proofs.YtmpdkccmcnegkaaDoor
open Go.RowKit Go.Maps
theorem keyOf_strInv (key : Value) (kl : Lit) (h : keyOf Tryd.prog 9 key = some kl) : ∃ x : ByteArray, key = .string x := by
  obtain ⟨x, rfl, _⟩ := Maps.keyOf_str Tryd.underlying9 h
  exact ⟨⟨x.toArray⟩, rfl⟩
theorem rangeF {w w' : World} {b n : Nat} {D : DataW Value} {left : Lit → Bool} {cnt r : Nat} (h : w.ranges Tryd.prog 9 RF b r n D left cnt) (hk : ∀ k, k < w.heap.size → w'.heap[k]? = w.heap[k]?) : w'.ranges Tryd.prog 9 RF b r n D left cnt := by
  have h1 := h.owns.lt
  have h2 := h.lt
  obtain ⟨es, clock, since, seen, c0, hb, F, hs, hD, hr, rest⟩ := h
  exact ⟨es, clock, since, seen, c0, (hk b h1).trans hb, F, hs, hD, (hk r h2).trans hr, rest⟩
/-- What a range over the files has left, by names. -/
def lf (left : Lit → Bool) (n : ByteArray) : Bool := left (kS n)
set_option maxRecDepth 100000 in
set_option maxHeartbeats 3200000 in
theorem used_disk (db : Nat) (P : Nat → Prop) (s : DkSt) (W : World) (h : DkAt W P db s) :
    Calls Tryd.prog 11 #[.pointer (some ⟨db, 0, none⟩)] W fun e w' => e = .returned (.int .i64 (fUsed s.fs)) ∧ Below W.heap.size W w' := by
  obtain ⟨mb, ld, hb, _, D, vf, hF⟩ := h.box
  obtain ⟨⟨p0, p1, p2, p3, p4⟩, _⟩ := row5 hb
  obtain ⟨n, hown⟩ := hF.map
  have HS : Hid (Srt s.fs) := h.ok.srt
  have HU : Hid (fUsed s.fs ≤ 500000) := Nat.le_trans h.ok.used h.ok.quo
  have HF : Hid (FM W P mb s.fs D vf) := hF
  have HR0 : Hid (fDone s.fs (lf (Maps.has D)) = 0) := fDone_none _ _ (fun p hp => (hF.has _).2 ⟨p, hp, rfl⟩)
  clear hb h hF
  generalize s.fs = fs at HS HU HF HR0 ⊢
  go_enter Tryd.func11, Tryd.ntmps11
  go_wp2_with (first | (at_range; refine wpList_range_own _ rfl _ 47 rfl 9 61 Tryd.lawK Tryd.underlying47 RF mb n D rfl hown ?_; intro w0 hrg0 hg0 hs0) | go_in)
  go_frame
  have HB0 : Hid (Below W.heap.size W w0) := ⟨hg0.os, hg0.tape, hg0.output, hg0.size, fun k hk => hg0.block k hk (by simp)⟩
  clear hown p0 p1 p2 p3 p4
  go_loopw [3, 5] (fun x y wr => ∃ (left : Lit → Bool) (cnt : Nat), wr.ranges Tryd.prog 9 RF mb W.heap.size n D left cnt ∧ x = .int .i64 (fDone fs (lf left)) ∧ Below W.heap.size W wr) (fun _ _ wr => wr.rangeLeft mb W.heap.size)
  case atStart => exact ⟨_, _, hrg0, by rw [HR0.out]; rfl, HB0.out⟩
  case round =>
    obtain ⟨left, cnt, hrg, rfl, hb⟩ := hrel
    have HD : Hid (fDone fs (lf left) ≤ 500000) := Nat.le_trans (fDone_le _ _) HU.out
    go_wp2_with (first | (at_next; refine wpList_next_ranges _ rfl _ rfl 9 Tryd.lawK RF Value.string (fun x : Option Addr × Nat × Nat => .slice x.1 x.2.1 x.2.2) keyOf_strInv RF_inv mb W.heap.size n D left cnt rfl hrg ?_ ?_) | go_in)
    · intro _ hl0
      have HE : Hid (fDone fs (lf left) = fUsed fs) := fDone_all _ _ (fun p _ => hl0 _)
      rw [HE.out]
      go_wp2
      go_ret
      exact ⟨rfl, hb⟩
    · intro x xa xn xc kl y yp w1 cnt1 hkey hlk hR hat hrg1 hlt hg1 hs1 hen
      have HX : Hid (∃ q ∈ fs, kl = kS q.1 ∧ xn = q.2.size) := (by
        obtain ⟨q, hq, rfl⟩ := (HF.out.has kl).1 (has_true_of_atKey hat)
        refine ⟨q, hq, rfl, ?_⟩
        have h1 := HF.out.at_ q hq .nil
        have h2 := hat .nil
        rw [h1] at h2
        have h3 := HF.out.row q hq
        have h4 : vf q.1 = .slice xa xn xc := by
          have e : y = .held (.slice xa xn xc) := by simp [RF] at hR; exact hR.1.symm
          rw [e] at h2
          injection h2
        rw [h4] at h3
        have h5 := (own_cap h3).1
        rw [h5]; simp [bl])
      obtain ⟨q, hq, rfl, rfl⟩ := HX.out
      have hstep : fDone fs (lf (fun z => left z && !z.sameKey (kS q.1))) = fDone fs (lf left) + q.2.size := fDone_step HS.out _ _ hq hlk (by simp [lf, kS_same]) (fun m hm => by simp [lf, kS_same, hm])
      have HD2 : Hid (fDone fs (lf (fun z => left z && !z.sameKey (kS q.1))) ≤ 500000) := Nat.le_trans (fDone_le _ _) HU.out
      have HST : Hid (fDone fs (lf (fun z => left z && !z.sameKey (kS q.1))) = fDone fs (lf left) + q.2.size) := hstep
      have hnum : fDone fs (lf left) + q.2.size ≤ 500000 := by rw [← hstep]; exact HD2.out
      generalize hm : fDone fs (lf left) = m at *
      clear hstep
      go_wp2
      go_roundw
      case rel => exact ⟨_, cnt1, hrg1, by rw [HST.out]; go_num, hb.grown hg1 hb.size (fun k hk => by injection hk with hk; omega)⟩
      case measure => rw [hrg1.left_eq, hrg.left_eq]; omega
end Go.Proofs.YtmpdkccmcnegkaaDoor
