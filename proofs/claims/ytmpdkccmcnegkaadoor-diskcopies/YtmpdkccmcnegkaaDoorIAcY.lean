/-
  The walk of the law DiskCopies.
-/
import Derived.Test.YtmpdkccmcnegkaaDoorIAcX
import Derived.Test.YtmpdkccmcnegkaaDoorIDkC
namespace Go.Proofs.YtmpdkccmcnegkaaDoor
open Go.RowKit Go.Maps
/-- What some acts make of a disk. -/
def runs (s : DkSt) (l : List Ac) : DkSt := l.foldl (fun s a => (s.stp a).2) s
theorem runs_step (s : DkSt) (l : List Ac) (i : Nat) (h : i < l.length) : runs s (l.take (i + 1)) = ((runs s (l.take i)).stp l[i]).2 := by
  unfold runs
  rw [List.take_add_one, List.getElem?_eq_getElem h, List.foldl_append]
  rfl
/-- A disk, its model and the disk's copy, apart from one another. -/
structure Tri (W : World) (db b gd q i j : Nat) (s sc : DkSt) (P Q R : Nat → Prop) (wr : World) : Prop where
  two : LpI W db b q i s P Q wr
  ck : DkAt wr R gd sc
  pr : ∀ k, P k → R k → False
  qr : ∀ k, Q k → R k → False
  rn : ∀ k, R k → W.heap.size ≤ k
  dn : sc.done ≤ 500 * j
theorem Tri.below {W : World} {db b gd q i j : Nat} {s sc : DkSt} {P Q R : Nat → Prop} {wr w' : World} (h : Tri W db b gd q i j s sc P Q R wr) (hb : Below wr.heap.size wr w') : Tri W db b gd q i j s sc P Q R w' :=
  ⟨h.two.below hb, h.ck.below hb, h.pr, h.qr, h.rn, h.dn⟩
theorem gr_apart {P R : Nat → Prop} {W w' : World} (h : ∀ k, P k → R k → False) (hl : ∀ k, P k → k < W.heap.size) : ∀ k, P k → Gr R W w' k → False := fun k hp hr => by
  rcases hr with hr | ⟨h1, _⟩
  · exact h k hp hr
  · have := hl k hp; omega
theorem gr_apart2 {P R : Nat → Prop} {W w' : World} (h : ∀ k, P k → R k → False) (hl : ∀ k, R k → k < W.heap.size) : ∀ k, Gr P W w' k → R k → False := fun k hp hr => by
  rcases hp with hp | ⟨h1, _⟩
  · exact h k hp hr
  · have := hl k hr; omega
theorem Tri.actC {W : World} {db b gd q i j : Nat} {s sc : DkSt} {P Q R : Nat → Prop} {wr w4 : World} {a : Ac} (h : Tri W db b gd q i j s sc P Q R wr) (ht : a.tx.size ≤ 500) (hd : DkAt w4 (Gr R wr w4) gd (sc.stp a).2) (ho : Off R wr w4) : Tri W db b gd q i (j + 1) s (sc.stp a).2 P Q (Gr R wr w4) w4 := by
  refine ⟨⟨h.two.dk.off ho (fun k hr hp => h.pr k hp hr), h.two.md.off ho (fun k hr hq => h.qr k hq hr), h.two.ap, h.two.pn, h.two.qn, h.two.old.trans (ho.below h.two.old.size h.rn), h.two.done, h.two.quo⟩, hd, gr_apart h.pr h.two.dk.lt, gr_apart h.qr h.two.md.lt, fun k hk => ?_, ?_⟩
  · rcases hk with hk | ⟨hk, _⟩
    · exact h.rn k hk
    · exact Nat.le_trans h.two.old.size hk
  · have h5 := stp_done sc a ht
    have h6 := h.dn
    omega
theorem Tri.acts {W : World} {db b gd q i j : Nat} {s sc : DkSt} {P Q R : Nat → Prop} {wr w3 w4 : World} {a : Ac} (h : Tri W db b gd q i j s sc P Q R wr) (ht : a.tx.size ≤ 500) (hm : MdAt w3 (Gr Q wr w3) b (s.stp a).2) (ho : Off Q wr w3) (hd : DkAt w4 (Gr P w3 w4) db (s.stp a).2) (ho2 : Off P w3 w4) : Tri W db b gd q (i + 1) j (s.stp a).2 sc (Gr P w3 w4) (Gr Q wr w3) R w4 := by
  have h3 := ho.size
  refine ⟨h.two.acts ht hm ho hd ho2, (h.ck.off ho h.qr).off ho2 h.pr, gr_apart2 h.pr (fun k hk => Nat.lt_of_lt_of_le (h.ck.lt k hk) h3), gr_apart2 h.qr h.ck.lt, h.rn, h.dn⟩
end Go.Proofs.YtmpdkccmcnegkaaDoor
