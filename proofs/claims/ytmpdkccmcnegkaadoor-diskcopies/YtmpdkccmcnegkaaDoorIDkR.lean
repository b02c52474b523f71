/-
  A disk's Read and Names.
-/
import Derived.Test.YtmpdkccmcnegkaaDoorIDkU
import Derived.Test.YtmpdkccmcnegkaaDoorIter
namespace Go.Proofs.YtmpdkccmcnegkaaDoor
open Go.RowKit Go.Maps Go.Sort Go.Shelf
/-- What a file is, if there is one. -/
def fGet (fs : List Fl) (n : ByteArray) : Option ByteArray := (fs.find? (fun p => decide (p.1 = n))).map (·.2)
theorem fGet_some {fs : List Fl} (hs : Srt fs) {p : Fl} (hp : p ∈ fs) : fGet fs p.1 = some p.2 := by
  unfold fGet
  cases h : fs.find? (fun q => decide (q.1 = p.1)) with
  | none => exact absurd (List.find?_eq_none.1 h p hp) (by simp)
  | some q =>
    have h1 := List.find?_some h
    have h2 := List.mem_of_find?_eq_some h
    rw [hs.inj h2 hp (by simpa using h1)]
    rfl
theorem fGet_none {fs : List Fl} {n : ByteArray} (h : fHas fs n = false) : fGet fs n = none := by
  unfold fGet
  rw [List.find?_eq_none.2 (fun q hq => by simpa using fHas_no.1 h q hq)]
  rfl
theorem bytes_back (s : ByteArray) : (⟨(bl s).toArray⟩ : ByteArray) = s := by cases s; simp [bl]
set_option maxRecDepth 100000 in
set_option maxHeartbeats 1600000 in
theorem read_disk (db : Nat) (P : Nat → Prop) (s : DkSt) (n : ByteArray) (hn : n.size ≤ maxLen) (be : Value) (W : World) (h : DkAt W P db s) (he : W.cell? ⟨1, 0, none⟩ = some be) :
    Calls Tryd.prog 12 #[.pointer (some ⟨db, 0, none⟩), .string n] W fun e w' =>
      e = .returned (.tuple #[.string ((fGet s.fs n).getD ⟨#[]⟩), if fHas s.fs n then .nilIface else be]) ∧ Below W.heap.size W w' := by
  have HH : Hid _ := has_disk db P s n hn W h
  obtain ⟨mb, ld, hb, _, D, vf, hF⟩ := h.box
  obtain ⟨⟨p0, p1, p2, p3, p4⟩, _⟩ := row5 hb
  have hS := h.ok.srt
  clear hb
  cases hx : fHas s.fs n with
  | false =>
    rw [hx] at HH
    have HG : Hid (fGet s.fs n = none) := fGet_none hx
    rw [HG.out]
    clear h hF hx
    go_enter Tryd.func12, Tryd.ntmps12
    go_wp2_with fail
    refine Calls.mono HH.out ?_
    rintro e w1 ⟨rfl, rfl⟩
    go_wp2
    go_quiet (fail)
    go_wp2
    go_ret2
    exact ⟨rfl, below_dW (Below.refl _ _) _⟩
  | true =>
    rw [hx] at HH
    obtain ⟨p, hp, e⟩ := fHas_iff.1 hx
    subst e
    have hlk := (hF.get p.1 hn).1 p hp rfl
    have hcv := ow_conv (l := bl p.2) rfl (hF.row p hp)
    rw [bytes_back] at hcv
    have HG : Hid (fGet s.fs p.1 = some p.2) := fGet_some hS hp
    rw [HG.out]
    generalize hv : vf p.1 = v at hlk hcv
    clear h hF hx hp hS hv
    go_enter Tryd.func12, Tryd.ntmps12
    go_wp2_with fail
    refine Calls.mono HH.out ?_
    rintro e w1 ⟨rfl, rfl⟩
    go_wp2
    go_ret2
    exact ⟨rfl, Below.refl _ _⟩
/-- Names, in a row of the call's own. -/
abbrev strC (l : List ByteArray) : List Value := l.map Value.string
theorem enc_names (fs : List Fl) : (fs.map (fun p => bl p.1)).map encStr = strC (fs.map (·.1)) := by
  simp only [strC, List.map_map]
  refine List.map_congr_left (fun p _ => ?_)
  simp [encStr]
set_option maxRecDepth 100000 in
set_option maxHeartbeats 1600000 in
theorem names_disk (db : Nat) (P : Nat → Prop) (s : DkSt) (W : World) (h : DkAt W P db s) :
    Calls Tryd.prog 15 #[.pointer (some ⟨db, 0, none⟩)] W fun e w' => (∃ v, e = .returned v ∧ w'.ownsRow W.heap.size 9 1 v s.fs.length (strC (s.fs.map (·.1)))) ∧ Below W.heap.size W w' := by
  obtain ⟨mb, ld, hb, _, D, vf, hF⟩ := h.box
  obtain ⟨⟨p0, p1, p2, p3, p4⟩, _⟩ := row5 hb
  have hsz := hF.size h.ok.srt
  obtain ⟨n, hm⟩ := hF.map
  have hl := h.ok.len
  have HK : Hid _ := (callsIn_wide (n := 5)).1 (Tryd.maps_Keys_31 (some mb) W)
  have HS : Hid _ := (callsIn_wide (n := 5)).1 (Tryd.slices_Sorted_keys_30_31 mb n D RF W hm (by rw [hsz]; unfold maxLen; omega) (by rw [hsz]; omega))
  have HP : Hid ((s.fs.map (fun p => bl p.1)).Perm (strKeys D)) := hF.perm h.ok.srt
  have HO : Hid (Srt s.fs) := h.ok.srt
  clear hb h hF hm hsz
  go_enter Tryd.func15, Tryd.ntmps15
  go_wp2_with fail
  refine Calls.mono HK.out ?_
  rintro e w1 ⟨rfl, rfl⟩
  go_wp2_with fail
  refine Calls.mono HS.out ?_
  rintro e w1 ⟨v, ss, rfl, hSS, hrow, hnil, hb⟩
  go_wp2
  go_ret
  refine ⟨⟨v, rfl, ?_⟩, ((Below.refl _ W).alloc (Nat.le_refl _) _).trans (hb.mono (by simp))⟩
  have h1 := HO.out.sorted (hSS.trans HP.out.symm)
  have h2 : ss.length = s.fs.length := by rw [(hSS.trans HP.out.symm).length_eq]; simp
  rw [h1, enc_names, h2] at hrow
  exact ownsRow_base_a hrow (by simp)
end Go.Proofs.YtmpdkccmcnegkaaDoor
