/-
  Two lists of as many right values with the same plain bytes are the same: the mathematics.
  What values plain bytes are: the mathematics, without the program.
  What numbers 0 or 1 bytes are: the mathematics, without the program.
  enc.check and enc.Plain at a kind that is none; Plain at whatever values.
-/
import Derived.Test.YtjchkhdmjbojjaaDoorLBPBools
import Derived.Test.YtjchkhdmjbojjaaDoorLBOpenVals
import Derived.Test.YtjchkhdmjbojjaaDoorLBTwiceMath
namespace Go.Proofs.YtjchkhdmjbojjaaDoor
open Go.RowKit
namespace Um
theorem u64_inj {n m : Int} (hn : -9223372036854775808 ≤ n ∧ n ≤ 9223372036854775807) (hm : -9223372036854775808 ≤ m ∧ m ≤ 9223372036854775807) (h : u64 n = u64 m) : n = m := by
  unfold u64 at h; omega
theorem u32_inj {n m : Int} (hn : -2147483648 ≤ n ∧ n ≤ 2147483647) (hm : -2147483648 ≤ m ∧ m ≤ 2147483647) (h : u64 n % 2 ^ (8 * 4) = u64 m % 2 ^ (8 * 4)) : n = m := by
  unfold u64 at h; omega
theorem nums_inj (k : Nat) (f : Int → Prop) (hf : ∀ n m, f n → f m → lit (u64 n) k = lit (u64 m) k → n = m) : ∀ (ns ms : List Int), ns.length = ms.length → (∀ n ∈ ns, f n) → (∀ n ∈ ms, f n) → nums k ns = nums k ms → ns = ms
  | [], [], _, _, _, _ => rfl
  | [], _ :: _, h, _, _, _ => by simp at h
  | _ :: _, [], h, _, _, _ => by simp at h
  | n :: ns, m :: ms, hl, hn, hm, h => by
    have e1 : nums k (n :: ns) = lit (u64 n) k ++ nums k ns := by simp [nums]
    have e2 : nums k (m :: ms) = lit (u64 m) k ++ nums k ms := by simp [nums]
    rw [e1, e2] at h
    obtain ⟨h1, h2⟩ := List.append_inj h (by rw [lit_len, lit_len])
    rw [hf n m (hn n (by simp)) (hm m (by simp)) h1, nums_inj k f hf ns ms (by simpa using hl) (fun x hx => hn x (by simp [hx])) (fun x hx => hm x (by simp [hx])) h2]
theorem txt_inj {s t r q : List UInt8} (hs : s.length < 18446744073709551616) (ht : t.length < 18446744073709551616) (h : txt s ++ r = txt t ++ q) : s = t ∧ r = q := by
  unfold txt at h
  rw [List.append_assoc, List.append_assoc] at h
  have h1 := rdv_whole s.length (s ++ r) hs
  have h2 := rdv_whole t.length (t ++ q) ht
  rw [h, h2] at h1
  have hl : s.length = t.length := by injection h1 with h1 _; exact h1.symm
  rw [hl] at h
  have h3 := List.append_cancel_left h
  exact List.append_inj h3 hl
theorem txts_inj : ∀ (ss ts : List (List UInt8)), ss.length = ts.length → (∀ s ∈ ss, s.length ≤ 100) → (∀ s ∈ ts, s.length ≤ 100) → txts ss = txts ts → ss = ts
  | [], [], _, _, _, _ => rfl
  | [], _ :: _, h, _, _, _ => by simp at h
  | _ :: _, [], h, _, _, _ => by simp at h
  | s :: ss, t :: ts, hl, hs, ht, h => by
    have e1 : txts (s :: ss) = txt s ++ txts ss := by simp [txts]
    have e2 : txts (t :: ts) = txt t ++ txts ts := by simp [txts]
    rw [e1, e2] at h
    have b1 := hs s (by simp)
    have b2 := ht t (by simp)
    obtain ⟨h1, h2⟩ := txt_inj (by omega) (by omega) h
    rw [h1, txts_inj ss ts (by simpa using hl) (fun x hx => hs x (by simp [hx])) (fun x hx => ht x (by simp [hx])) h2]
end Um
theorem packed_inj {xs ys : List Int} (hl : xs.length = ys.length) (hx : ∀ x ∈ xs, x = 0 ∨ x = 1) (hy : ∀ x ∈ ys, x = 0 ∨ x = 1) (h : packed 1 xs = packed 1 ys) : xs = ys := by
  have lt : ∀ zs : List Int, (∀ x ∈ zs, x = 0 ∨ x = 1) → ∀ x ∈ nats zs, x < 2 ^ 1 := fun zs hz x hm => by
    obtain ⟨y, hy, rfl⟩ := List.mem_map.1 hm
    have := hz y hy
    omega
  have back : ∀ zs : List Int, (∀ x ∈ zs, x = 0 ∨ x = 1) → zs = (Um.unp (packed 1 zs) 1 zs.length).map (fun n : Nat => (n : Int)) := fun zs hz => by
    have h := Um.unp_packed 1 (nats zs) ((1 * zs.length + 7) / 8) [] (lt zs hz) (by rw [nats_len]; omega)
    rw [List.append_nil, nats_len] at h
    unfold packed
    rw [h]
    unfold nats
    rw [List.map_map]
    refine (List.map_id' zs).symm.trans (List.map_congr_left fun x hm => ?_)
    have := hz x hm
    simp; omega
  rw [back xs hx, back ys hy, h, hl]
theorem vl_ext {v u : Vl} (h1 : v.k = u.k) (h2 : v.n = u.n) (h3 : v.s = u.s) : v = u := by cases v; cases u; simp_all
theorem vs_ext {vs us : List Vl} (h1 : vs.map (·.k) = us.map (·.k)) (h2 : vns vs = vns us) (h3 : vss vs = vss us) : vs = us := by
  have hl : vs.length = us.length := by have := congrArg List.length h2; simpa [vns] using this
  refine List.ext_getElem hl fun j hj hj' => vl_ext ?_ ?_ ?_
  · have := congrArg (fun l => l[j]?) h1
    simpa [hj, hj'] using this
  · have := congrArg (fun l => l[j]?) h2
    simpa [vns, hj, hj'] using this
  · have := congrArg (fun l => l[j]?) h3
    simp [vss, hj, hj'] at this
    cases e1 : vs[j].s
    cases e2 : us[j].s
    simp_all
/-- Right values of a kind, within their bounds. -/
def Right (kd : Int) (vs : List Vl) : Prop := (1 ≤ kd ∧ kd ≤ 5) ∧ ∀ v ∈ vs, v.Ok kd ∧ v.In
theorem right_kinds {kd : Int} {vs us : List Vl} (hl : vs.length = us.length) (h1 : Right kd vs) (h2 : Right kd us) : vs.map (·.k) = us.map (·.k) := by
  refine List.ext_getElem (by simpa using hl) fun j hj hj' => ?_
  simp at hj hj'
  simp only [List.getElem_map]
  rw [(h1.2 _ (List.getElem_mem hj)).1.1, (h2.2 _ (List.getElem_mem hj')).1.1]
theorem plainB_inj {kd : Int} {vs us : List Vl} (hl : vs.length = us.length) (h1 : Right kd vs) (h2 : Right kd us) (h : plainB kd vs = plainB kd us) : vs = us := by
  have hk := right_kinds hl h1 h2
  have hln : (vns vs).length = (vns us).length := by rw [vns_len, vns_len, hl]
  have mem : ∀ {ws : List Vl}, Right kd ws → ∀ n ∈ vns ws, ∃ v ∈ ws, v.n = n ∧ v.Ok kd ∧ v.In := fun hw n hm => by
    obtain ⟨v, hv, rfl⟩ := List.mem_map.1 hm
    exact ⟨v, hv, rfl, hw.2 v hv⟩
  have texts : kd ≠ 4 → vss vs = vss us := fun h4 => by
    have e : ∀ {ws : List Vl}, Right kd ws → vss ws = List.replicate ws.length [] := fun {ws} hw => by
      refine List.ext_getElem (by simp [vss]) fun j hj hj' => ?_
      simp [vss] at hj ⊢
      have := (hw.2 _ (List.getElem_mem hj)).1
      unfold Vl.Ok OkV at this
      have hz : ws[j].s.size = 0 := by omega
      exact Array.eq_empty_of_size_eq_zero hz
    rw [e h1, e h2, hl]
  unfold plainB at h
  by_cases c1 : kd = 1
  · rw [if_pos c1, if_pos c1] at h
    refine vs_ext hk (packed_inj hln (fun n hn => ?_) (fun n hn => ?_) h) (texts (by omega))
    · obtain ⟨v, _, rfl, ho, _⟩ := mem h1 n hn
      unfold Vl.Ok OkV at ho; omega
    · obtain ⟨v, _, rfl, ho, _⟩ := mem h2 n hn
      unfold Vl.Ok OkV at ho; omega
  · rw [if_neg c1, if_neg c1] at h
    by_cases c4 : kd = 4
    · rw [if_pos c4, if_pos c4] at h
      have b : ∀ {ws : List Vl}, Right kd ws → ∀ s ∈ vss ws, s.length ≤ 100 := fun hw s hm => by
        obtain ⟨v, hv, rfl⟩ := List.mem_map.1 hm
        have ho := (hw.2 v hv).1
        unfold Vl.Ok OkV at ho
        rw [Array.length_toList]
        show v.s.size ≤ 100
        omega
      have hs := Um.txts_inj _ _ (by rw [vss_len, vss_len, hl]) (b h1) (b h2) h
      refine vs_ext hk ?_ hs
      refine List.ext_getElem hln fun j hj hj' => ?_
      have z : ∀ {ws : List Vl}, Right kd ws → ∀ n ∈ vns ws, n = 0 := fun hw n hm => by
        obtain ⟨v, _, rfl, ho, _⟩ := mem hw n hm
        unfold Vl.Ok OkV at ho; omega
      rw [z h1 _ (List.getElem_mem hj), z h2 _ (List.getElem_mem hj')]
    · rw [if_neg c4, if_neg c4] at h
      refine vs_ext hk ?_ (texts c4)
      by_cases c2 : kd = 2
      · rw [if_pos c2] at h
        refine Um.nums_inj 4 (fun n => -2147483648 ≤ n ∧ n ≤ 2147483647) (fun n m hn hm e => ?_) _ _ hln (fun n hn => ?_) (fun n hn => ?_) h
        · have := congrArg Um.lev e
          rw [Um.lev_lit, Um.lev_lit] at this
          exact Um.u32_inj hn hm this
        · obtain ⟨v, _, rfl, ho, _⟩ := mem h1 n hn
          unfold Vl.Ok OkV at ho; omega
        · obtain ⟨v, _, rfl, ho, _⟩ := mem h2 n hn
          unfold Vl.Ok OkV at ho; omega
      · rw [if_neg c2] at h
        refine Um.nums_inj 8 (fun n => -9223372036854775808 ≤ n ∧ n ≤ 9223372036854775807) (fun n m hn hm e => ?_) _ _ hln (fun n hn => ?_) (fun n hn => ?_) h
        · have := congrArg Um.lev e
          rw [Um.lev_lit, Um.lev_lit] at this
          have l1 := Um.u64_lt n
          have l2 := Um.u64_lt m
          exact Um.u64_inj hn hm (by omega)
        · obtain ⟨v, _, rfl, _, hi⟩ := mem h1 n hn
          exact hi.2.1
        · obtain ⟨v, _, rfl, _, hi⟩ := mem h2 n hn
          exact hi.2.1
end Go.Proofs.YtjchkhdmjbojjaaDoor

namespace Go.Proofs.YtjchkhdmjbojjaaDoor
open Go.RowKit
namespace Um
theorem bt_toNat (b : UInt8) : bt (b.toNat : Int) = b := by
  apply UInt8.toNat_inj.1
  exact bt_nat b.toNat_lt
theorem by_lev : ∀ (l : List UInt8) (j : Nat) (h : j < l.length), by_ (lev l) j = l[j].toNat
  | [], j, h => by simp at h
  | b :: l, 0, _ => by
    have := b.toNat_lt
    simp [by_, lev]
  | b :: l, j + 1, h => by
    have ih := by_lev l j (by simpa using h)
    have := b.toNat_lt
    have e : by_ (lev (b :: l)) (j + 1) = by_ (lev l) j := by
      unfold by_
      rw [pow_step, Nat.mul_comm, ← Nat.div_div_eq_div_mul]
      congr 2
      simp only [lev]; omega
    rw [e, ih]; rfl
theorem lit_lev (l : List UInt8) : lit (lev l) l.length = l := by
  refine List.ext_getElem (lit_len _ _) fun j h1 h2 => ?_
  rw [lit_get _ _ j h2, by_lev l j h2, bt_toNat]
/-- The number with a sign that so many bytes are. -/
def sgn (k x : Nat) : Int := if x < 2 ^ (8 * k - 1) then (x : Int) else (x : Int) - 2 ^ (8 * k)
theorem sgn_four {x : Nat} (h : x < 4294967296) : (-2147483648 ≤ sgn 4 x ∧ sgn 4 x ≤ 2147483647) ∧ u64 (sgn 4 x) % 4294967296 = x := by
  unfold sgn u64
  have e : (2 : Nat) ^ (8 * 4 - 1) = 2147483648 := by decide
  have e2 : (2 : Int) ^ (8 * 4) = 4294967296 := by decide
  rw [e, e2]
  split <;> omega
theorem sgn_eight {x : Nat} (h : x < 18446744073709551616) : (-9223372036854775808 ≤ sgn 8 x ∧ sgn 8 x ≤ 9223372036854775807) ∧ u64 (sgn 8 x) = x := by
  unfold sgn u64
  have e : (2 : Nat) ^ (8 * 8 - 1) = 9223372036854775808 := by decide
  have e2 : (2 : Int) ^ (8 * 8) = 18446744073709551616 := by decide
  rw [e, e2]
  split <;> omega
theorem lit_mod (n k : Nat) : lit (n % 2 ^ (8 * k)) k = lit n k := by
  refine List.ext_getElem (by rw [lit_len, lit_len]) fun j h1 h2 => ?_
  rw [lit_len] at h1
  rw [lit_get _ _ j h1, lit_get _ _ j h1]
  have e : by_ (n % 2 ^ (8 * k)) j = by_ n j := by
    unfold by_
    obtain ⟨d, rfl⟩ : ∃ d, k = j + 1 + d := ⟨k - j - 1, by omega⟩
    have h : (2 : Nat) ^ (8 * (j + 1 + d)) = 2 ^ (8 * j) * (256 * 2 ^ (8 * d)) := by
      rw [show 8 * (j + 1 + d) = 8 * j + (8 + 8 * d) by omega, Nat.pow_add, Nat.pow_add]
    rw [h, Nat.mod_mul_right_div_self, Nat.mod_mul_right_mod]
  rw [e]
/-- Number i of numbers of so many bytes. -/
def rdn (k : Nat) (l : List UInt8) (i : Nat) : Int := sgn k (lev ((l.drop (k * i)).take k))
theorem lit_rdn (k : Nat) (hk : k = 4 ∨ k = 8) (l : List UInt8) (i : Nat) (h : k * i + k ≤ l.length) : lit (u64 (rdn k l i)) k = (l.drop (k * i)).take k := by
  have hl : ((l.drop (k * i)).take k).length = k := by rw [List.length_take, List.length_drop]; omega
  have hlt := lev_lt ((l.drop (k * i)).take k)
  rw [hl] at hlt
  have e := lit_lev ((l.drop (k * i)).take k)
  rw [hl] at e
  unfold rdn
  generalize (l.drop (k * i)).take k = b at *
  rcases hk with rfl | rfl
  · have := (sgn_four (x := lev b) hlt).2
    rw [← lit_mod, show (2 : Nat) ^ (8 * 4) = 4294967296 by decide, this, e]
  · rw [(sgn_eight (x := lev b) hlt).2, e]
theorem nums_rdn (k : Nat) (hk : k = 4 ∨ k = 8) (l : List UInt8) : ∀ n, k * n ≤ l.length → nums k ((List.range n).map (rdn k l)) = l.take (k * n)
  | 0, _ => by simp [nums]
  | n + 1, h => by
    rw [Nat.mul_add, Nat.mul_one] at h
    rw [List.range_succ, List.map_append, List.map_cons, List.map_nil, nums_snoc, nums_rdn k hk l n (by omega), lit_rdn k hk l n h, Nat.mul_add, Nat.mul_one, List.take_add]
end Um
/-- These are the values of a kind that the bytes are. -/
def IsPl (kd : Int) (l : List UInt8) (n : Nat) (vs : List Vl) : Prop := vs.length = n ∧ Right kd vs ∧ plainB kd vs = l
theorem isPl_fn {kd : Int} {l : List UInt8} {n : Nat} {vs us : List Vl} (h1 : IsPl kd l n vs) (h2 : IsPl kd l n us) : vs = us :=
  plainB_inj (h1.1.trans h2.1.symm) h1.2.1 h2.2.1 (h1.2.2.trans h2.2.2.symm)
/-- The bytes of a number of the kind. -/
def szOf (kd : Int) : Nat := if kd = 2 then 4 else 8
theorem szOf_cases (kd : Int) : szOf kd = 4 ∨ szOf kd = 8 := by unfold szOf; split <;> simp
/-- The numbers that bytes are. -/
def rdvs (kd : Int) (l : List UInt8) (n : Nat) : List Vl := (List.range n).map fun i => ⟨kd, Um.rdn (szOf kd) l i, ⟨#[]⟩⟩
theorem rdvs_len (kd : Int) (l : List UInt8) (n : Nat) : (rdvs kd l n).length = n := by simp [rdvs]
theorem isPl_nums {kd : Int} {l : List UInt8} {n : Nat} (h : kd = 2 ∨ kd = 3 ∨ kd = 5) (hl : l.length = szOf kd * n) : IsPl kd l n (rdvs kd l n) := by
  have hv : vns (rdvs kd l n) = (List.range n).map (Um.rdn (szOf kd) l) := by simp [vns, rdvs]
  refine ⟨rdvs_len kd l n, ⟨by omega, fun v hm => ?_⟩, ?_⟩
  · obtain ⟨i, hi, rfl⟩ := List.mem_map.1 hm
    rw [List.mem_range] at hi
    have hlt := Um.lev_lt ((l.drop (szOf kd * i)).take (szOf kd))
    have hll : ((l.drop (szOf kd * i)).take (szOf kd)).length ≤ szOf kd := by rw [List.length_take]; omega
    have hb : Um.lev ((l.drop (szOf kd * i)).take (szOf kd)) < 2 ^ (8 * szOf kd) := Nat.lt_of_lt_of_le hlt (Nat.pow_le_pow_right (by omega) (by omega))
    have h8 : -9223372036854775808 ≤ Um.rdn (szOf kd) l i ∧ Um.rdn (szOf kd) l i ≤ 9223372036854775807 ∧ (kd = 2 → -2147483648 ≤ Um.rdn (szOf kd) l i ∧ Um.rdn (szOf kd) l i ≤ 2147483647) := by
      unfold Um.rdn
      by_cases h2 : kd = 2
      · have e : szOf kd = 4 := by simp [szOf, h2]
        rw [e] at hb ⊢
        have := (Um.sgn_four hb).1
        omega
      · have e : szOf kd = 8 := by simp [szOf, h2]
        rw [e] at hb ⊢
        have := (Um.sgn_eight hb).1
        omega
    refine ⟨?_, ⟨by simp only; omega, ⟨h8.1, h8.2.1⟩, Nat.zero_le _⟩⟩
    show OkV kd kd (Um.rdn (szOf kd) l i) 0
    unfold OkV
    omega
  · unfold plainB
    rw [if_neg (by omega), if_neg (by omega), hv]
    have := Um.nums_rdn (szOf kd) (szOf_cases kd) l n (by omega)
    rw [← hl, List.take_length] at this
    exact this
theorem notPl_nums {kd : Int} {l : List UInt8} {n : Nat} (h : kd = 2 ∨ kd = 3 ∨ kd = 5) (hl : l.length ≠ szOf kd * n) : ¬ ∃ vs, IsPl kd l n vs := by
  rintro ⟨vs, h1, _, h3⟩
  apply hl
  rw [← h3]
  unfold plainB
  rw [if_neg (by omega), if_neg (by omega), Um.nums_len, vns_len, h1]
  rfl
end Go.Proofs.YtjchkhdmjbojjaaDoor

namespace Go.Proofs.YtjchkhdmjbojjaaDoor
open Go.RowKit
namespace Um
theorem num_unp (l : List UInt8) (w : Nat) : ∀ n, num w (unp l w n) = lev l % 2 ^ (w * n)
  | 0 => by simp [unp, num, Nat.mod_one]
  | n + 1 => by
    rw [unp_succ, num_snoc, num_unp l w n, unp_len, Nat.mul_add, Nat.mul_one, Nat.pow_add, Nat.mod_mul, Nat.mul_comm (2 ^ (w * n))]
/-- Have the bytes nothing behind so many bits? -/
theorem lev_last (l : List UInt8) (n : Nat) (b : UInt8) (h : (l ++ [b]).length = (n + 7) / 8) (hr : 0 < n % 8) : lev (l ++ [b]) < 2 ^ n ↔ b.toNat / 2 ^ (n % 8) = 0 := by
  have hl : 8 * l.length + n % 8 = n := by rw [List.length_append] at h; simp at h; omega
  have h1 := lev_lt l
  have h2 := lev_snoc l b
  have hp := Nat.two_pow_pos (8 * l.length)
  have e : 2 ^ n = 2 ^ (8 * l.length) * 2 ^ (n % 8) := by rw [← Nat.pow_add, hl]
  rw [h2, e, Nat.div_eq_zero_iff_lt (Nat.two_pow_pos _)]
  generalize 2 ^ (8 * l.length) = P at *
  generalize 2 ^ (n % 8) = Q
  constructor
  · intro h3
    apply Nat.lt_of_mul_lt_mul_left (a := P)
    rw [Nat.mul_comm P b.toNat]
    omega
  · intro h3
    have h4 : b.toNat * P + P ≤ P * Q := by
      have : (b.toNat + 1) * P ≤ Q * P := Nat.mul_le_mul_right _ h3
      rw [Nat.add_mul, Nat.one_mul] at this
      rw [Nat.mul_comm P Q]; exact this
    omega
end Um
/-- The numbers 0 or 1 that bytes are, as values. -/
def bvs (l : List UInt8) (n : Nat) : List Vl := (List.range n).map fun i => ⟨1, ((Um.unp l 1 n).getD i 0 : Nat), ⟨#[]⟩⟩
theorem isPl_bools {l : List UInt8} {n : Nat} (hl : l.length = (n + 7) / 8) (hb : Um.lev l < 2 ^ n) : IsPl 1 l n (bvs l n) := by
  have hv : nats (vns (bvs l n)) = Um.unp l 1 n := by
    refine List.ext_getElem (by simp [nats, vns, bvs, Um.unp_len]) fun j h1 h2 => ?_
    rw [Um.unp_len] at h2
    have h3 : j < (Um.unp l 1 n).length := by rw [Um.unp_len]; exact h2
    simp [nats, vns, bvs, List.getD, h3]
  have hbit : ∀ i, (Um.unp l 1 n).getD i 0 < 2 := fun i => by
    by_cases h : i < (Um.unp l 1 n).length
    · have := Um.unp_lt l 1 n (Um.unp l 1 n)[i] (List.getElem_mem h)
      simpa [List.getD, h] using this
    · simp [List.getD, h]
  refine ⟨by simp [bvs], ⟨by omega, fun v hm => ?_⟩, ?_⟩
  · obtain ⟨i, _, rfl⟩ := List.mem_map.1 hm
    have := hbit i
    refine ⟨?_, ⟨by simp, by simp only; omega, Nat.zero_le _⟩⟩
    show OkV 1 1 (((Um.unp l 1 n).getD i 0 : Nat) : Int) 0
    unfold OkV
    omega
  · show packed 1 (vns (bvs l n)) = l
    unfold packed
    rw [hv, Um.num_unp, Nat.one_mul, Nat.mod_eq_of_lt hb, vns_len, show (bvs l n).length = n by simp [bvs], Nat.one_mul, ← hl]
    exact Um.lit_lev l
theorem notPl_bools {l : List UInt8} {n : Nat} (h : l.length ≠ (n + 7) / 8 ∨ ¬ Um.lev l < 2 ^ n) : ¬ ∃ vs, IsPl 1 l n vs := by
  rintro ⟨vs, h1, h2, h3⟩
  have h4 : packed 1 (vns vs) = l := h3
  unfold packed at h4
  rw [vns_len, h1, Nat.one_mul] at h4
  have hn := Um.num_lt 1 (nats (vns vs)) fun x hm => by
    obtain ⟨m, hm', rfl⟩ := List.mem_map.1 hm
    obtain ⟨v, hv, rfl⟩ := List.mem_map.1 hm'
    have ho := (h2.2 v hv).1
    unfold Vl.Ok OkV at ho
    omega
  rw [nats_len, vns_len, h1, Nat.one_mul] at hn
  rcases h with h | h
  · apply h; rw [← h4, Um.lit_len]
  · apply h
    rw [← h4, Um.lev_lit]
    exact Nat.lt_of_le_of_lt (Nat.mod_le _ _) hn
end Go.Proofs.YtjchkhdmjbojjaaDoor

namespace Go.Proofs.YtjchkhdmjbojjaaDoor
open Go.RowKit
set_option maxRecDepth 100000 in
theorem checkE_kind (a : Option Addr) (n c : Nat) (kd : Int) (w : World) (kt : TypeId) (kp : Value) (_hn : n ≤ 20000) (hgk : w.cell? ⟨2, 0, none⟩ = some (.iface kt kp)) (hk : ¬ (1 ≤ kd ∧ kd ≤ 5)) :
    Calls Tryd.prog 24 #[.int .i64 kd, .slice a n c] w fun e w' => e = .returned (.iface kt kp) ∧ w' = w := by
  have HK : Hid _ := hgk
  have HN : Hid (¬ (1 ≤ kd ∧ kd ≤ 5)) := hk
  clear hgk hk
  go_enter Tryd.func24, Tryd.ntmps24
  go_wp2_with fail
  refine (checkCount_kind _ _ _ _ HK.out HN.out).mono ?_
  rintro e w1 ⟨rfl, hw⟩
  obtain rfl := hw.symm
  go_wp2_with fail
  go_ret
  exact ⟨rfl, rfl⟩
set_option maxRecDepth 100000 in
theorem plain_kind (a : Option Addr) (n c : Nat) (kd : Int) (w : World) (kt : TypeId) (kp : Value) (hn : n ≤ 20000) (hgk : w.cell? ⟨2, 0, none⟩ = some (.iface kt kp)) (hk : ¬ (1 ≤ kd ∧ kd ≤ 5)) :
    Calls Tryd.prog 15 #[.int .i64 kd, .slice a n c] w fun e w' => e = .returned (.tuple #[.string ⟨#[]⟩, .iface kt kp]) ∧ w' = w := by
  have HK : Hid _ := hgk
  have HN : Hid (¬ (1 ≤ kd ∧ kd ≤ 5)) := hk
  clear hgk hk
  go_enter Tryd.func15, Tryd.ntmps15
  go_wp2_with fail
  refine (checkE_kind a n c kd w kt kp hn HK.out HN.out).mono ?_
  rintro e w1 ⟨rfl, hw⟩
  obtain rfl := hw.symm
  go_wp2_with fail
  go_ret2
  exact ⟨rfl, rfl⟩
/-- The first value that is not of the kind. -/
theorem first_bad (kd : Int) (vs : List Vl) (h : ¬ ∀ v ∈ vs, v.Ok kd) : ∃ i, ∃ hi : i < vs.length, ¬ vs[i].Ok kd ∧ ∀ j (h : j < vs.length), j < i → vs[j].Ok kd := by
  induction vs with
  | nil => exact absurd (fun v hv => by simp at hv) h
  | cons v vs ih =>
    by_cases hv : v.Ok kd
    · have h2 : ¬ ∀ u ∈ vs, u.Ok kd := fun hall => h fun u hu => by
        rcases List.mem_cons.1 hu with rfl | hu
        · exact hv
        · exact hall u hu
      obtain ⟨i, hi, hb, hf⟩ := ih h2
      refine ⟨i + 1, by simpa using hi, by simpa using hb, fun j hj hji => ?_⟩
      cases j with
      | zero => simpa using hv
      | succ j => simpa using hf j (by simpa using hj) (by omega)
    · exact ⟨0, by simp, by simpa using hv, fun j _ hji => absurd hji (by omega)⟩
/-- What Plain answers: the bytes of right values, or an error. -/
def RetPl (kd : Int) (vs : List Vl) (e : Ending) : Prop :=
  (Right kd vs ∧ e = .returned (.tuple #[.string ⟨(plainB kd vs).toArray⟩, .nilIface])) ∨ (¬ Right kd vs ∧ ∃ t p, e = .returned (.tuple #[.string ⟨#[]⟩, .iface t p]))
theorem plain_any (a : Option Addr) (vs : List Vl) (c : Nat) (kd : Int) (w : World) (kt st : TypeId) (kp sp : Value) (hgk : w.cell? ⟨2, 0, none⟩ = some (.iface kt kp)) (hgs : w.cell? ⟨1, 0, none⟩ = some (.iface st sp)) (hn : vs.length ≤ 20000) (hl : LiesV w a vs) (hx : ∀ v ∈ vs, v.In) :
    Calls Tryd.prog 15 #[.int .i64 kd, .slice a vs.length c] w fun e w' => RetPl kd vs e ∧ Below w.heap.size w w' := by
  by_cases hk : 1 ≤ kd ∧ kd ≤ 5
  · by_cases hok : ∀ v ∈ vs, v.Ok kd
    · refine (plain_right a vs c kd w kt st kp sp hgk hgs hn hk.1 hk.2 hl (fun j h => hok _ (List.getElem_mem h)) (fun j h => (hx _ (List.getElem_mem h)).2.1)).mono ?_
      rintro e w' ⟨rfl, hb⟩
      exact ⟨Or.inl ⟨⟨hk, fun v hv => ⟨hok v hv, hx v hv⟩⟩, rfl⟩, hb⟩
    · obtain ⟨i, hi, hbad, hf⟩ := first_bad kd vs hok
      refine (plain_fault a vs c kd w kt kp hgk hn hk.1 hk.2 hl i hi hbad hf).mono ?_
      rintro e w' ⟨⟨p, rfl, _, _⟩, hb⟩
      exact ⟨Or.inr ⟨fun h => hok fun v hv => (h.2 v hv).1, _, _, rfl⟩, hb⟩
  · refine (plain_kind a vs.length c kd w kt kp hn hgk hk).mono ?_
    rintro e w' ⟨rfl, rfl⟩
    exact ⟨Or.inr ⟨fun h => hk h.1, _, _, rfl⟩, Below.refl _ _⟩
end Go.Proofs.YtjchkhdmjbojjaaDoor
