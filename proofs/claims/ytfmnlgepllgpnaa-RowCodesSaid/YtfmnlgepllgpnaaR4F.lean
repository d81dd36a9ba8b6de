/- The walks of rowcode's reading of a form: so many bytes, a whole number, a length; or there is none. -/
import Derived.Test.YtfmnlgepllgpnaaR4E
namespace Go.Proofs.Ytfmnlgepllgpnaa
open Go.RowKit
set_option linter.unusedVariables false

abbrev noRowV : Value := .iface 51 (.agg #[])
abbrev noRowP : List PanicEntry := [{ v := noRowV, recovered := false }]
theorem add_block (a : Addr) (k : Nat) : (a.add k).block = a.block := by
  unfold Addr.add; split <;> rfl
/-- Bytes that are read: so many, and where they lie. -/
def Bytes (w : World) (v : Value) (xs : List UInt8) : Prop :=
  (v = .slice none 0 0 ∧ xs = []) ∨ ∃ (a : Addr) (cap : Nat), v = .slice (some a) xs.length cap ∧ xs.length ≤ cap ∧ ∀ j (hj : j < xs.length), w.cell? (a.add j) = some (bv xs[j])
theorem Bytes.keep {W w' : World} {v : Value} {xs : List UInt8} (h : Bytes W v xs) (hb : Below W.heap.size W w') : Bytes w' v xs := by
  rcases h with h | ⟨a, cap, hv, hc, h⟩
  · exact Or.inl h
  · refine Or.inr ⟨a, cap, hv, hc, fun j hj => ?_⟩
    have h1 := h j hj
    exact (hb.cell (p := a.add j) (World.block_lt_of_cell? W _ h1)).trans h1
/-- Bytes that do not lie in block p. -/
def Off (p : Nat) (v : Value) (xs : List UInt8) : Prop := ∀ a n cap, v = .slice (some a) n cap → xs ≠ [] → a.block ≠ p
theorem Bytes.but {W w' : World} {v : Value} {xs : List UInt8} {p : Nat} (h : Bytes W v xs) (ho : Off p v xs) (hg : W.grownBy w' (some p)) : Bytes w' v xs := by
  rcases h with h | ⟨a, cap, hv, hc, h⟩
  · exact Or.inl h
  · refine Or.inr ⟨a, cap, hv, hc, fun j hj => ?_⟩
    have h1 := h j hj
    have hne : a.block ≠ p := ho a _ _ hv (by intro e; subst e; simp at hj)
    exact (hg.cell_far (a.add j) (World.block_lt_of_cell? W _ h1) (fun e => hne ((add_block a j).symm.trans (Option.some.inj e)))).trans h1
/-- Bytes that lie in a block below B. -/
def Old (B : Nat) (v : Value) (xs : List UInt8) : Prop := ∀ a n cap, v = .slice (some a) n cap → xs ≠ [] → a.block < B
theorem Old.off {B p : Nat} {v : Value} {xs : List UInt8} (h : Old B v xs) (hp : B ≤ p) : Off p v xs := fun a n cap e hne => by have := h a n cap e hne; omega
/-- Where the reading stands: what is still to be read. -/
structure Cur (w : World) (p B : Nat) (sv : Value) (r : List UInt8) : Prop where
  hp : w.heap[p]? = some (.cells #[sv] 54 (0, 0))
  by_ : Bytes w sv r
  old : Old B sv r
  le : B ≤ p
theorem grownBy_set (w : World) (p : Nat) (u : Value) : w.grownBy (w.setCell ⟨p, 0, none⟩ u) (some p) :=
  ⟨rfl, rfl, rfl, by simp [World.setCell], fun k _ hk => Below.heap_setCell _ _ _ _ (fun e => hk (by rw [e]))⟩

set_option maxHeartbeats 400000 in
theorem take_nil (p B : Nat) (w : World) (h : Cur w p B (.slice none 0 0) []) :
    Calls Try.prog 31 #[.pointer (some ⟨p, 0, none⟩), .int .i64 0] w fun e w' => e = .returned (.slice none 0 0) ∧ w' = w.setCell ⟨p, 0, none⟩ (.slice none 0 0) := by
  have c1 := cell_of_one h.hp
  have f1 := free_of_one h.hp
  clear h
  go_enter Try.func31, Try.ntmps31
  go_wp2
  go_ret
  exact ⟨rfl, rfl⟩
def Took (w : World) (p : Nat) (a : Addr) (n cap k : Nat) (w' : World) : Prop := ∃ a', (a' = a.add k ∨ n - k = 0) ∧ w' = w.setCell ⟨p, 0, none⟩ (.slice (some a') (n - k) (cap - k))
set_option maxHeartbeats 400000 in
theorem take_some (p : Nat) (a : Addr) (n cap k : Nat) (w : World) (h : w.heap[p]? = some (.cells #[.slice (some a) n cap] 54 (0, 0))) (hn : n ≤ cap) (hk : k ≤ n) (hc : n ≤ 200000000000000) :
    Calls Try.prog 31 #[.pointer (some ⟨p, 0, none⟩), .int .i64 k] w fun e w' => e = .returned (.slice (some a) k cap) ∧ Took w p a n cap k w' := by
  have c1 := cell_of_one h
  have f1 := free_of_one h
  clear h
  go_enter Try.func31, Try.ntmps31
  go_wp2
  · go_ret
    exact ⟨rfl, a, Or.inr (by omega), by rw [Nat.sub_self]⟩
  · go_ret
    exact ⟨rfl, _, Or.inl rfl, rfl⟩
set_option maxHeartbeats 400000 in
theorem take_none (p : Nat) (ao : Option Addr) (n cap k : Nat) (w : World) (h : w.heap[p]? = some (.cells #[.slice ao n cap] 54 (0, 0))) (hk : n < k) :
    Calls Try.prog 31 #[.pointer (some ⟨p, 0, none⟩), .int .i64 k] w fun e w' => e = .panicked noRowP ∧ w' = w := by
  have c1 := cell_of_one h
  have f1 := free_of_one h
  clear h
  go_enter Try.func31, Try.ntmps31
  go_wp2
  exact ⟨rfl, rfl, rfl⟩
theorem add_add (a : Addr) (i j : Nat) : (a.add i).add j = a.add (i + j) := by
  by_cases hi : i = 0
  · subst hi; simp [Addr.add]
  · by_cases hj : j = 0
    · subst hj; simp [Addr.add]
    · simp [Addr.add, hi, hj, Nat.add_assoc]
theorem Cur.slice {w : World} {p B : Nat} {sv : Value} {r : List UInt8} (h : Cur w p B sv r) : ∃ ao cap, sv = .slice ao r.length cap := by
  rcases h.by_ with ⟨h1, h2⟩ | ⟨a, cap, h1, _⟩
  · exact ⟨none, 0, by rw [h1, h2]; rfl⟩
  · exact ⟨_, _, h1⟩
/-- So many bytes are read, or there are not so many. -/
theorem take_any (p B k : Nat) (sv : Value) (r : List UInt8) (w : World) (h : Cur w p B sv r) (hr : r.length ≤ 200000000000000) :
    Calls Try.prog 31 #[.pointer (some ⟨p, 0, none⟩), .int .i64 k] w fun e w' =>
      (∃ tv sv', k ≤ r.length ∧ e = .returned tv ∧ Bytes w' tv (r.take k) ∧ Old B tv (r.take k) ∧ Cur w' p B sv' (r.drop k) ∧ w.grownBy w' (some p)) ∨ (r.length < k ∧ e = .panicked noRowP ∧ w' = w) := by
  by_cases hk : k ≤ r.length
  · have h0 := h
    obtain ⟨hp, hby, hold, hBp⟩ := h
    have hoff := hold.off hBp
    rcases hby with ⟨hv, hx⟩ | ⟨a, cap, hv, hc, hcell⟩
    · subst hv hx
      obtain rfl : k = 0 := by simpa using hk
      refine (take_nil p B w h0).mono fun e w' ⟨he, hw⟩ => Or.inl ⟨_, .slice none 0 0, hk, he, Or.inl ⟨rfl, rfl⟩, (fun a n cap e => by cases e), ⟨?_, Or.inl ⟨rfl, rfl⟩, (fun a n cap e => by cases e), hBp⟩, ?_⟩
      · rw [hw]; exact one_setCell hp
      · rw [hw]; exact grownBy_set _ _ _
    · subst hv
      refine (take_some p a r.length cap k w hp hc hk hr).mono fun e w' ⟨he, a', ha, hw⟩ => Or.inl ?_
      have hg : w.grownBy w' (some p) := by rw [hw]; exact grownBy_set _ _ _
      have hB0 : Bytes w' (.slice (some a) r.length cap) r := Bytes.but (Or.inr ⟨a, cap, rfl, hc, hcell⟩) hoff hg
      have hB : ∀ j (hj : j < r.length), w'.cell? (a.add j) = some (bv r[j]) := by
        rcases hB0 with ⟨e, _⟩ | ⟨b, cap2, e, _, h2⟩
        · cases e
        · cases e; exact h2
      have hlen : (r.take k).length = k := by rw [List.length_take]; omega
      refine ⟨_, .slice (some a') (r.length - k) (cap - k), hk, he, Or.inr ⟨a, cap, by rw [hlen], by omega, fun j hj => ?_⟩, ?_, ⟨?_, Or.inr ⟨a', cap - k, by rw [List.length_drop], by rw [List.length_drop]; omega, fun j hj => ?_⟩, ?_, hBp⟩, hg⟩
      · have := hB j (by rw [hlen] at hj; omega)
        rw [this, List.getElem_take]
      · intro b n c e hne
        cases e
        exact hold a _ _ rfl (by intro e; subst e; simp at hne)
      · rw [hw]; exact one_setCell hp
      · rw [List.length_drop] at hj
        rcases ha with rfl | h0
        · rw [add_add, hB (k + j) (by omega), List.getElem_drop]
        · omega
      · intro b n c e hne
        cases e
        rcases ha with rfl | h0
        · rw [add_block]
          exact hold a _ _ rfl (by intro e; subst e; simp at hne)
        · exact absurd (List.drop_of_length_le (by omega)) hne
  · obtain ⟨ao, cap, rfl⟩ := h.slice
    refine (take_none p ao r.length cap k w h.hp (by omega)).mono fun e w' ⟨he, hw⟩ => Or.inr ⟨by omega, he, hw⟩

/-- What one byte more makes of a number that is still short. -/
theorem shl_low (u k : Nat) (c : UInt8) (hu : u < 256 ^ k) (hk : k < 8) : bits .or .u64 (u : Int) (IntKind.u64.wrap (IntKind.u64.wrap (c.toNat : Int) * 2 ^ (8 * k))) = ((u + 256 ^ k * c.toNat : Nat) : Int) := by
  have hc := c.toNat_lt
  have e0 : IntKind.u64.wrap (c.toNat : Int) = (c.toNat : Int) := by rw [IntKind.wrap_u64]; omega
  have h1 : (256 : Nat) ^ k ≤ 256 ^ 7 := Nat.pow_le_pow_right (by decide) (by omega)
  have e7 : (256 : Nat) ^ 7 = 72057594037927936 := by decide
  rw [e7] at h1
  have e1 : (c.toNat : Int) * 2 ^ (8 * k) = ((2 ^ (8 * k) * c.toNat : Nat) : Int) := by
    rw [Int.natCast_mul, Int.natCast_pow, Int.mul_comm]; rfl
  have e2 : (2 : Nat) ^ (8 * k) = 256 ^ k := by rw [Nat.pow_mul]
  have hlt : 2 ^ (8 * k) * c.toNat < 18446744073709551616 := by
    rw [e2]
    calc 256 ^ k * c.toNat ≤ 72057594037927936 * c.toNat := Nat.mul_le_mul_right _ h1
      _ < 18446744073709551616 := by omega
  have e3 : IntKind.u64.wrap ((2 ^ (8 * k) * c.toNat : Nat) : Int) = ((2 ^ (8 * k) * c.toNat : Nat) : Int) := by rw [IntKind.wrap_u64]; omega
  rw [e0, e1, e3, u64_or_nat _ _ (by omega) hlt, Nat.or_comm, ← Nat.two_pow_add_eq_or_of_lt (by rw [e2]; exact hu), e2, Nat.add_comm]
end Go.Proofs.Ytfmnlgepllgpnaa
