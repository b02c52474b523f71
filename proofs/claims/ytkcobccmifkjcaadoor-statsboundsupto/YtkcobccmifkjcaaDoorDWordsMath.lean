/-
  Two lists of as many right values with the same plain bytes are the same: the mathematics.
-/
import Derived.Test.YtkcobccmifkjcaaDoorDBPTexts
import Derived.Test.YtkcobccmifkjcaaDoorDBOpenVals
import Derived.Test.YtkcobccmifkjcaaDoorDBPack
namespace Go.Proofs.YtkcobccmifkjcaaDoor
open Go.RowKit
namespace Um
theorem u64_inj {n m : Int} (hn : -9223372036854775808 ≤ n ∧ n ≤ 9223372036854775807) (hm : -9223372036854775808 ≤ m ∧ m ≤ 9223372036854775807) (h : u64 n = u64 m) : n = m := by
  unfold u64 at h; omega
theorem u32_inj {n m : Int} (hn : -2147483648 ≤ n ∧ n ≤ 2147483647) (hm : -2147483648 ≤ m ∧ m ≤ 2147483647) (h : u64 n % 2 ^ (8 * 4) = u64 m % 2 ^ (8 * 4)) : n = m := by
  unfold u64 at h; omega
theorem nums_inj (k : Nat) (f : Int → Prop) (hf : ∀ n m, f n → f m → lit (u64 n) k = lit (u64 m) k → n = m) : ∀ (ns ms : List Int), ns.length = ms.length → (∀ n ∈ ns, f n) → (∀ n ∈ ms, f n) → nums k ns = nums k ms → ns = ms
  | [], [], _, _, _, _ => rfl
  | [], _ :: _, h, _, _, _ => by simp at h
  | _ :: _, [], h, _, _, _ => by simp at h
  | n :: ns, m :: ms, hl, hn, hm, h => by
    have e1 : nums k (n :: ns) = lit (u64 n) k ++ nums k ns := by simp [nums]
    have e2 : nums k (m :: ms) = lit (u64 m) k ++ nums k ms := by simp [nums]
    rw [e1, e2] at h
    obtain ⟨h1, h2⟩ := List.append_inj h (by rw [lit_len, lit_len])
    rw [hf n m (hn n (by simp)) (hm m (by simp)) h1, nums_inj k f hf ns ms (by simpa using hl) (fun x hx => hn x (by simp [hx])) (fun x hx => hm x (by simp [hx])) h2]
theorem txt_inj {s t r q : List UInt8} (hs : s.length < 18446744073709551616) (ht : t.length < 18446744073709551616) (h : txt s ++ r = txt t ++ q) : s = t ∧ r = q := by
  unfold txt at h
  rw [List.append_assoc, List.append_assoc] at h
  have h1 := rdv_whole s.length (s ++ r) hs
  have h2 := rdv_whole t.length (t ++ q) ht
  rw [h, h2] at h1
  have hl : s.length = t.length := by injection h1 with h1 _; exact h1.symm
  rw [hl] at h
  have h3 := List.append_cancel_left h
  exact List.append_inj h3 hl
theorem txts_inj : ∀ (ss ts : List (List UInt8)), ss.length = ts.length → (∀ s ∈ ss, s.length ≤ 100) → (∀ s ∈ ts, s.length ≤ 100) → txts ss = txts ts → ss = ts
  | [], [], _, _, _, _ => rfl
  | [], _ :: _, h, _, _, _ => by simp at h
  | _ :: _, [], h, _, _, _ => by simp at h
  | s :: ss, t :: ts, hl, hs, ht, h => by
    have e1 : txts (s :: ss) = txt s ++ txts ss := by simp [txts]
    have e2 : txts (t :: ts) = txt t ++ txts ts := by simp [txts]
    rw [e1, e2] at h
    have b1 := hs s (by simp)
    have b2 := ht t (by simp)
    obtain ⟨h1, h2⟩ := txt_inj (by omega) (by omega) h
    rw [h1, txts_inj ss ts (by simpa using hl) (fun x hx => hs x (by simp [hx])) (fun x hx => ht x (by simp [hx])) h2]
end Um
theorem packed_inj {xs ys : List Int} (hl : xs.length = ys.length) (hx : ∀ x ∈ xs, x = 0 ∨ x = 1) (hy : ∀ x ∈ ys, x = 0 ∨ x = 1) (h : packed 1 xs = packed 1 ys) : xs = ys := by
  have lt : ∀ zs : List Int, (∀ x ∈ zs, x = 0 ∨ x = 1) → ∀ x ∈ nats zs, x < 2 ^ 1 := fun zs hz x hm => by
    obtain ⟨y, hy, rfl⟩ := List.mem_map.1 hm
    have := hz y hy
    omega
  have back : ∀ zs : List Int, (∀ x ∈ zs, x = 0 ∨ x = 1) → zs = (Um.unp (packed 1 zs) 1 zs.length).map (fun n : Nat => (n : Int)) := fun zs hz => by
    have h := Um.unp_packed 1 (nats zs) ((1 * zs.length + 7) / 8) [] (lt zs hz) (by rw [nats_len]; omega)
    rw [List.append_nil, nats_len] at h
    unfold packed
    rw [h]
    unfold nats
    rw [List.map_map]
    refine (List.map_id' zs).symm.trans (List.map_congr_left fun x hm => ?_)
    have := hz x hm
    simp; omega
  rw [back xs hx, back ys hy, h, hl]
theorem vl_ext {v u : Vl} (h1 : v.k = u.k) (h2 : v.n = u.n) (h3 : v.s = u.s) : v = u := by cases v; cases u; simp_all
theorem vs_ext {vs us : List Vl} (h1 : vs.map (·.k) = us.map (·.k)) (h2 : vns vs = vns us) (h3 : vss vs = vss us) : vs = us := by
  have hl : vs.length = us.length := by have := congrArg List.length h2; simpa [vns] using this
  refine List.ext_getElem hl fun j hj hj' => vl_ext ?_ ?_ ?_
  · have := congrArg (fun l => l[j]?) h1
    simpa [hj, hj'] using this
  · have := congrArg (fun l => l[j]?) h2
    simpa [vns, hj, hj'] using this
  · have := congrArg (fun l => l[j]?) h3
    simp [vss, hj, hj'] at this
    cases e1 : vs[j].s
    cases e2 : us[j].s
    simp_all
/-- Right values of a kind, within their bounds. -/
def Right (kd : Int) (vs : List Vl) : Prop := (1 ≤ kd ∧ kd ≤ 5) ∧ ∀ v ∈ vs, v.Ok kd ∧ v.In
theorem right_kinds {kd : Int} {vs us : List Vl} (hl : vs.length = us.length) (h1 : Right kd vs) (h2 : Right kd us) : vs.map (·.k) = us.map (·.k) := by
  refine List.ext_getElem (by simpa using hl) fun j hj hj' => ?_
  simp at hj hj'
  simp only [List.getElem_map]
  rw [(h1.2 _ (List.getElem_mem hj)).1.1, (h2.2 _ (List.getElem_mem hj')).1.1]
theorem plainB_inj {kd : Int} {vs us : List Vl} (hl : vs.length = us.length) (h1 : Right kd vs) (h2 : Right kd us) (h : plainB kd vs = plainB kd us) : vs = us := by
  have hk := right_kinds hl h1 h2
  have hln : (vns vs).length = (vns us).length := by rw [vns_len, vns_len, hl]
  have mem : ∀ {ws : List Vl}, Right kd ws → ∀ n ∈ vns ws, ∃ v ∈ ws, v.n = n ∧ v.Ok kd ∧ v.In := fun hw n hm => by
    obtain ⟨v, hv, rfl⟩ := List.mem_map.1 hm
    exact ⟨v, hv, rfl, hw.2 v hv⟩
  have texts : kd ≠ 4 → vss vs = vss us := fun h4 => by
    have e : ∀ {ws : List Vl}, Right kd ws → vss ws = List.replicate ws.length [] := fun {ws} hw => by
      refine List.ext_getElem (by simp [vss]) fun j hj hj' => ?_
      simp [vss] at hj ⊢
      have := (hw.2 _ (List.getElem_mem hj)).1
      unfold Vl.Ok OkV at this
      have hz : ws[j].s.size = 0 := by omega
      exact Array.eq_empty_of_size_eq_zero hz
    rw [e h1, e h2, hl]
  unfold plainB at h
  by_cases c1 : kd = 1
  · rw [if_pos c1, if_pos c1] at h
    refine vs_ext hk (packed_inj hln (fun n hn => ?_) (fun n hn => ?_) h) (texts (by omega))
    · obtain ⟨v, _, rfl, ho, _⟩ := mem h1 n hn
      unfold Vl.Ok OkV at ho; omega
    · obtain ⟨v, _, rfl, ho, _⟩ := mem h2 n hn
      unfold Vl.Ok OkV at ho; omega
  · rw [if_neg c1, if_neg c1] at h
    by_cases c4 : kd = 4
    · rw [if_pos c4, if_pos c4] at h
      have b : ∀ {ws : List Vl}, Right kd ws → ∀ s ∈ vss ws, s.length ≤ 100 := fun hw s hm => by
        obtain ⟨v, hv, rfl⟩ := List.mem_map.1 hm
        have ho := (hw.2 v hv).1
        unfold Vl.Ok OkV at ho
        rw [Array.length_toList]
        show v.s.size ≤ 100
        omega
      have hs := Um.txts_inj _ _ (by rw [vss_len, vss_len, hl]) (b h1) (b h2) h
      refine vs_ext hk ?_ hs
      refine List.ext_getElem hln fun j hj hj' => ?_
      have z : ∀ {ws : List Vl}, Right kd ws → ∀ n ∈ vns ws, n = 0 := fun hw n hm => by
        obtain ⟨v, _, rfl, ho, _⟩ := mem hw n hm
        unfold Vl.Ok OkV at ho; omega
      rw [z h1 _ (List.getElem_mem hj), z h2 _ (List.getElem_mem hj')]
    · rw [if_neg c4, if_neg c4] at h
      refine vs_ext hk ?_ (texts c4)
      by_cases c2 : kd = 2
      · rw [if_pos c2] at h
        refine Um.nums_inj 4 (fun n => -2147483648 ≤ n ∧ n ≤ 2147483647) (fun n m hn hm e => ?_) _ _ hln (fun n hn => ?_) (fun n hn => ?_) h
        · have := congrArg Um.lev e
          rw [Um.lev_lit, Um.lev_lit] at this
          exact Um.u32_inj hn hm this
        · obtain ⟨v, _, rfl, ho, _⟩ := mem h1 n hn
          unfold Vl.Ok OkV at ho; omega
        · obtain ⟨v, _, rfl, ho, _⟩ := mem h2 n hn
          unfold Vl.Ok OkV at ho; omega
      · rw [if_neg c2] at h
        refine Um.nums_inj 8 (fun n => -9223372036854775808 ≤ n ∧ n ≤ 9223372036854775807) (fun n m hn hm e => ?_) _ _ hln (fun n hn => ?_) (fun n hn => ?_) h
        · have := congrArg Um.lev e
          rw [Um.lev_lit, Um.lev_lit] at this
          have l1 := Um.u64_lt n
          have l2 := Um.u64_lt m
          exact Um.u64_inj hn hm (by omega)
        · obtain ⟨v, _, rfl, _, hi⟩ := mem h1 n hn
          exact hi.2.1
        · obtain ⟨v, _, rfl, _, hi⟩ := mem h2 n hn
          exact hi.2.1
end Go.Proofs.YtkcobccmifkjcaaDoor
