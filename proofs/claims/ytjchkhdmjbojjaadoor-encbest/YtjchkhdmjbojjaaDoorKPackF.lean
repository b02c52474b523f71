/-
  bitrun.Pack: what it answers, for a right width and whatever numbers; out of its bounds; and the closed fact nine().
-/
import Derived.Test.YtjchkhdmjbojjaaDoorKPack
import Derived.Test.YtjchkhdmjbojjaaDoorKBBits0
namespace Go.Proofs.YtjchkhdmjbojjaaDoor
open Go.RowKit
/-- 'string(b)' of a row of the call's own, with an address. -/
theorem own_conv_at {w : World} {base g n cap : Nat} {l : List UInt8} (hl : l.length = n) (h : w.ownsRow base 5 1 (.slice (some ⟨g, 0, none⟩) n cap) n (cellsOf l)) :
    (convert 76 9 (.slice (some ⟨g, 0, none⟩) n cap)).run Tryd.prog w = .ok (.string ⟨l.toArray⟩) w := by
  subst hl
  exact run_convert_bytes_back w 76 9 5 ⟨g, 0, none⟩ cap l Tryd.underlying76 Tryd.underlying5 Tryd.underlying9 (fun j hj => h.cells rfl j _ (by simp [cellsOf, hj]))
/-- Right numbers, without their sign. -/
def nats (xs : List Int) : List Nat := xs.map Int.toNat
theorem nats_len (xs : List Int) : (nats xs).length = xs.length := by simp [nats]
theorem nats_get (xs : List Int) (j : Nat) (h : j < xs.length) : (nats xs)[j]'(by rw [nats_len]; exact h) = xs[j].toNat := by simp [nats]
theorem nats_lt {k : Nat} {xs : List Int} (h : ∀ j (h : j < xs.length), Room k xs[j]) : ∀ x ∈ nats xs, x < 2 ^ k := by
  intro x hx
  obtain ⟨y, hy, rfl⟩ := List.mem_map.1 hx
  obtain ⟨j, hj, rfl⟩ := List.getElem_of_mem hy
  have h0 := h j hj
  unfold Room at h0
  have e : ((2 ^ k : Nat) : Int) = (2 : Int) ^ k := by simp
  rw [← e] at h0
  omega
/-- pack, of right ints. -/
theorem pack_ints (xs : List Int) (k size : Nat) (a : Option Addr) (c : Nat) (w : World) (hlen : xs.length ≤ 20000) (hk : k ≤ 32) (hr : ∀ j (h : j < xs.length), Room k xs[j])
    (hsz : (k * xs.length + 7) / 8 ≤ size) (hsz2 : size ≤ 1000000)
    (ha : ∀ j (h : j < xs.length), ∃ b o, a = some ⟨b, o, none⟩ ∧ w.cell? ⟨b, o + j, none⟩ = some (.int .i64 xs[j])) :
    Calls Tryd.prog 66 #[.slice a xs.length c, .int .i64 k, .int .i64 size] w fun e w' =>
      (e = .returned (.slice (some ⟨w.heap.size, 0, none⟩) size size) ∧ w'.ownsRow w.heap.size 5 1 (.slice (some ⟨w.heap.size, 0, none⟩) size size) size (cellsOf (Um.lit (Um.num k (nats xs)) size))) ∧ Below w.heap.size w w' := by
  have h := pack_any (nats xs) k size a c w (by rw [nats_len]; exact hlen) hk (nats_lt hr) (by rw [nats_len]; exact hsz) hsz2 (fun j hj => by
    rw [nats_len] at hj
    obtain ⟨b, o, e, hc⟩ := ha j hj
    refine ⟨b, o, e, ?_⟩
    rw [hc, nats_get xs j hj]
    have := (hr j hj).1
    rw [Int.toNat_of_nonneg this])
  rw [nats_len] at h
  exact h
/-- The bytes of right numbers. -/
def packed (k : Nat) (xs : List Int) : List UInt8 := Um.lit (Um.num k (nats xs)) ((k * xs.length + 7) / 8)
set_option maxHeartbeats 800000 in
set_option maxRecDepth 100000 in
theorem packF_any (a : Option Addr) (xs : List Int) (c k : Nat) (w : World) (st : TypeId) (sp : Value) (hn : xs.length ≤ 20000) (hk : k ≤ 32) (hg : w.cell? ⟨1, 0, none⟩ = some (.iface st sp))
    (hx : ∀ j (h : j < xs.length), -9223372036854775808 ≤ xs[j] ∧ xs[j] ≤ 9223372036854775807)
    (ha : ∀ j (h : j < xs.length), ∃ b o, a = some ⟨b, o, none⟩ ∧ w.cell? ⟨b, o + j, none⟩ = some (.int .i64 xs[j])) :
    Calls Tryd.prog 78 #[.slice a xs.length c, .int .i64 k] w fun e w' =>
      ((e = .returned (.tuple #[.string ⟨(packed k xs).toArray⟩, .nilIface]) ∧ ∀ j (h : j < xs.length), Room k xs[j]) ∨
       (∃ i p, ∃ hi : i < xs.length, e = .returned (.tuple #[.string ⟨#[]⟩, .iface 84 (.pointer (some ⟨p, 0, none⟩))]) ∧ (∀ j (h : j < xs.length), j < i → Room k xs[j]) ∧ ¬ Room k xs[i] ∧ w'.cell? ⟨p, 0, none⟩ = some (.int .i64 i) ∧ w'.cell? ⟨p, 1, none⟩ = some (.iface st sp))) ∧ Below w.heap.size w w' := by
  have HG : Hid (w.cell? ⟨1, 0, none⟩ = some (.iface st sp)) := hg
  have HX : Hid (∀ j (h : j < xs.length), -9223372036854775808 ≤ xs[j] ∧ xs[j] ≤ 9223372036854775807) := hx
  have HA : Hid (∀ j (h : j < xs.length), ∃ b o, a = some ⟨b, o, none⟩ ∧ w.cell? ⟨b, o + j, none⟩ = some (.int .i64 xs[j])) := ha
  have hmul : k * xs.length ≤ 32 * 20000 := Nat.mul_le_mul hk hn
  have hmi : (xs.length : Int) * (k : Int) = ((k * xs.length : Nat) : Int) := by rw [Nat.mul_comm]; simp
  clear hx ha hg
  go_enter Tryd.func78, Tryd.ntmps78
  go_wp2_with fail
  refine (check_any a xs c k w st sp hn hk HG.out HX.out HA.out).mono ?_
  rintro e w1 ⟨⟨rfl, HR⟩ | ⟨i, p, hi, rfl, h1, h2, h3, h4⟩, hb1⟩
  · have HR' : Hid (∀ j (h : j < xs.length), Room k xs[j]) := HR
    clear HR
    obtain ⟨size, HS⟩ : ∃ size, Hid (size = (k * xs.length + 7) / 8) := ⟨_, rfl⟩
    have hs2 : size ≤ 1000000 := by rw [HS.out]; omega
    go_wp2_with (go_at_call 65; refine (eights_any (k * xs.length) _ (by omega)).mono ?_; rw [← HS.out]; rintro e w2 ⟨rfl, hw⟩; obtain rfl := hw.symm)
    refine (pack_ints xs k size a c w1 hn hk HR'.out (by rw [HS.out]; exact Nat.le_refl _) hs2 (fun j h => by
      obtain ⟨b, o, e, hc⟩ := HA.out j h
      exact ⟨b, o, e, (hb1.cell (World.block_lt_of_cell? w _ hc)).trans hc⟩)).mono ?_
    rintro e w2 ⟨⟨rfl, hown⟩, hb2⟩
    have hcv := own_conv_at (Um.lit_len _ _) hown
    go_wp2_with fail
    go_ret2
    refine ⟨Or.inl ⟨?_, HR'.out⟩, hb1.trans (hb2.mono hb1.size)⟩
    unfold packed
    rw [← HS.out]
    rfl
  · go_wp2_with fail
    go_ret2
    exact ⟨Or.inr ⟨i, p, hi, rfl, h1, h2, h3, h4⟩, hb1⟩
set_option maxRecDepth 100000 in
theorem packF_bound (a : Option Addr) (n c : Nat) (k : Int) (w : World) (st : TypeId) (sp : Value) (hn : n ≤ maxLen) (hg : w.cell? ⟨3, 0, none⟩ = some (.iface st sp)) (hk : decide (0 ≤ k ∧ k ≤ 32) = false ∨ decide (0 ≤ k ∧ k ≤ 32) = true ∧ decide ((n : Int) ≤ 20000) = false) :
    Calls Tryd.prog 78 #[.slice a n c, .int .i64 k] w fun e w' => e = .returned (.tuple #[.string ⟨#[]⟩, .iface st sp]) ∧ w' = w := by
  have HG : Hid (w.cell? ⟨3, 0, none⟩ = some (.iface st sp)) := hg
  clear hg
  go_enter Tryd.func78, Tryd.ntmps78
  go_wp2_with (go_at_call 63; refine (check_bound a n c k w _ hn HG.out hk).mono ?_; rintro e w1 ⟨rfl, hw⟩; obtain rfl := hw.symm)
  go_ret2
  exact ⟨rfl, rfl⟩
theorem packed_nine : packed 2 [1, 2] = [9] := by decide +kernel
end Go.Proofs.YtjchkhdmjbojjaaDoor
