/- The document's log: number, Read; a region's bytes and its rest, as the laws read them. -/
import Derived.Test.YtcjoolmlobjpbaaW6P
namespace Go.Proofs.Ytcjoolmlobjpbaa
open Go.RowKit Go.Maps
set_option linter.unusedVariables false
set_option linter.unusedSimpArgs false

theorem u32sh (c : UInt8) (k : Nat) (hk : k ≤ 24) : (0 : Int) ≤ (c.toNat : Int) * 2 ^ k ∧ (c.toNat : Int) * 2 ^ k < 4294967296 := by
  have hc := c.toNat_lt
  have h1 : (2 : Nat) ^ k ≤ 2 ^ 24 := Nat.pow_le_pow_right (by decide) hk
  have h2 : c.toNat * 2 ^ k ≤ 255 * 2 ^ 24 := Nat.mul_le_mul (by omega) h1
  have e : (c.toNat : Int) * 2 ^ k = ((c.toNat * 2 ^ k : Nat) : Int) := by rw [Int.natCast_mul, Int.natCast_pow]; rfl
  rw [e]
  omega
set_option maxHeartbeats 2000000 in
theorem number_any (v : Value) (xs : List UInt8) (w : World) (h : Bytes w v xs) (hl : 4 ≤ xs.length) (hl2 : xs.length ≤ 1000000) :
    Calls Try.prog 39 #[v] w fun e w' => e = .returned (.int .u32 (leV (xs.take 4))) ∧ ∃ n, w' = w.drewN n := by
  obtain ⟨ao, cap, rfl, hc, hx⟩ := h.form
  obtain ⟨a, rfl, hx'⟩ := hx (by omega)
  clear h hx
  match xs, hl with
  | b0 :: b1 :: b2 :: b3 :: rest, _ =>
    have q0 := hx' 0 (bv b0) rfl
    have q1 := hx' 1 (bv b1) rfl
    have q2 := hx' 2 (bv b2) rfl
    have q3 := hx' 3 (bv b3) rfl
    clear hx'
    have hsp : a.spot = none := by
      have := World.cell?_spot q0
      simpa [Addr.add] using this
    obtain ⟨g, o, sp⟩ := a
    simp only at hsp
    subst hsp
    rw [Addr.add_mid] at q0 q1 q2 q3
    unfold bv at q0 q1 q2 q3
    have z0 := b0.toNat_lt
    have z1 := b1.toNat_lt
    have z2 := b2.toNat_lt
    have z3 := b3.toNat_lt
    have hlen : 4 ≤ (b0 :: b1 :: b2 :: b3 :: rest).length := by simp
    generalize (b0 :: b1 :: b2 :: b3 :: rest).length = m at *
    have m1 : (1 : Int) < (m : Int) := by omega
    have m2 : (2 : Int) < (m : Int) := by omega
    have m3 : (3 : Int) < (m : Int) := by omega
    have n0 : 0 < m := by omega
    rw [Nat.add_zero] at q0
    have s1 := u32sh b1 8 (by omega)
    have s2 := u32sh b2 16 (by omega)
    have s3 := u32sh b3 24 (by omega)
    go_enter Try.func39, Try.ntmps39
    go_wp2
    go_quiet (fail)
    go_wp2
    go_ret
    refine ⟨ret_int ?_, _, rfl⟩
    simp [leV]
    omega
theorem zerosB_snoc (bs : List UInt8) (a j : Nat) (h : j < bs.length) (ha : a ≤ j) : zerosB ((bs.drop a).take (j + 1 - a)) = (zerosB ((bs.drop a).take (j - a)) && (bs[j] == 0)) := by
  unfold zerosB
  rw [show j + 1 - a = (j - a) + 1 by omega, List.take_succ_eq_append_getElem (by rw [List.length_drop]; omega), List.all_append]
  simp [List.getElem_drop, show a + (j - a) = j by omega]
/-- What the document reads in a region. -/
def ReadOut (w : World) (bs : List UInt8) (e : Ending) (w' : World) : Prop := ∃ (recs : List (List UInt8)) (v : Value), e = .returned (.tuple #[v, .int .i64 (sizeL recs)]) ∧ Parses bs recs ∧ NewRecs w.heap.size w' v recs ∧ Below w.heap.size w w'
theorem ReadOut.mk {w wr : World} {bs rest : List UInt8} {recs : List (List UInt8)} {v : Value} (h : bs = frames recs ++ rest) (ho : ∀ r ∈ recs, OkR r) (hn : NoFrame rest) (hv : NewRecs w.heap.size wr v recs) (hb : Below w.heap.size w wr) : ReadOut w bs (.returned (.tuple #[v, .int .i64 (sizeL recs)])) wr := ⟨recs, v, rfl, ⟨rest, h, ho, hn⟩, hv, hb⟩

end Go.Proofs.Ytcjoolmlobjpbaa
