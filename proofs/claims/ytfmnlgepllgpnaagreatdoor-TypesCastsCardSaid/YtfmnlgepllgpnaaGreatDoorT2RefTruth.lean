/- The walk of the document's own reading of a truth. -/
import Derived.Test.YtfmnlgepllgpnaaGreatDoorT2RefTrim
namespace Go.Proofs.YtfmnlgepllgpnaaGreatDoor
open Go.RowKit
set_option linter.unusedVariables false

/-- A byte in small letters. -/
def lowC (c : UInt8) : UInt8 := if 65 ≤ c.toNat ∧ c.toNat ≤ 90 then c + 32 else c
theorem low_all : ∀ n : Fin 256, ([116, 114, 117, 101, 102, 97, 108, 115].all fun t => decide (lowC (UInt8.ofNat n.val) = t) == decide (UInt8.ofNat n.val ||| 32 = t)) = true := by decide +kernel
theorem low_is (c t : UInt8) (h : t ∈ ([116, 114, 117, 101, 102, 97, 108, 115] : List UInt8)) : lowC c = t ↔ c ||| 32 = t := by
  have g := List.all_eq_true.1 (low_all ⟨c.toNat, c.toNat_lt⟩) t h
  simp only [UInt8.ofNat_toNat] at g
  have g2 := beq_iff_eq.1 g
  constructor
  · intro e; rw [decide_eq_true e] at g2; exact of_decide_eq_true g2.symm
  · intro e; rw [decide_eq_true e] at g2; exact of_decide_eq_true g2
/-- What a byte's text as a rune is like. -/
structure EncF (f : UInt8 → List UInt8) : Prop where
  low : ∀ c : UInt8, c.toNat < 128 → f c = [c]
  high : ∀ c : UInt8, 128 ≤ c.toNat → ∃ d r, f c = d :: r ∧ 128 ≤ d.toNat
theorem enc_word {f : UInt8 → List UInt8} (hf : EncF f) (l : List UInt8) : ∀ T : List UInt8, (∀ t ∈ T, t ∈ ([116, 114, 117, 101, 102, 97, 108, 115] : List UInt8)) → (l.flatMap (fun c => f (lowC c)) = T ↔ foldL l = T) := by
  induction l with
  | nil => intro T _; simp [foldL]
  | cons c l ih =>
    intro T hT
    rw [List.flatMap_cons]
    show f (lowC c) ++ l.flatMap (fun c => f (lowC c)) = T ↔ (c ||| 32) :: foldL l = T
    have hlow := low_is c
    generalize lowC c = x at *
    by_cases hx : x.toNat < 128
    · rw [hf.low x hx]
      cases T with
      | nil => simp
      | cons t T =>
        have ht := hT t (by simp)
        have hT' : ∀ u ∈ T, u ∈ ([116, 114, 117, 101, 102, 97, 108, 115] : List UInt8) := fun u hu => hT u (by simp [hu])
        simp only [List.singleton_append, List.cons.injEq]
        rw [hlow t ht, ih T hT']
    · obtain ⟨d, r, hd, hd1⟩ := hf.high x (by omega)
      rw [hd]
      cases T with
      | nil => simp
      | cons t T =>
        have ht := hT t (by simp)
        have hsm : t.toNat < 128 := by
          simp only [List.mem_cons, List.not_mem_nil, or_false] at ht
          rcases ht with rfl | rfl | rfl | rfl | rfl | rfl | rfl | rfl <;> decide
        simp only [List.cons_append, List.cons.injEq]
        refine ⟨fun e => ?_, fun e => ?_⟩
        · rw [e.1] at hd1; omega
        · have h := (hlow t ht).2 e.1
          rw [h] at hx
          exact absurd hsm hx
def encR (c : UInt8) : ByteArray := Utf8.encode (wrap32 (c.toNat : Int))
def encOk (e : ByteArray) (c : UInt8) : Bool := decide (e.size ≤ 4) && (if c.toNat < 128 then e.data.toList == [c] else match e.data.toList with | d :: _ => decide (128 ≤ d.toNat) | [] => false)
theorem enc_all : ∀ n : Fin 256, encOk (encR (UInt8.ofNat n.val)) (UInt8.ofNat n.val) = true := by decide +kernel
theorem enc_one (c : UInt8) : encOk (encR c) c = true := by
  have g := enc_all ⟨c.toNat, c.toNat_lt⟩
  simp only [UInt8.ofNat_toNat] at g
  exact g
theorem encOk_size {e : ByteArray} {c : UInt8} (h : encOk e c = true) : e.size ≤ 4 := by
  unfold encOk at h
  rw [Bool.and_eq_true] at h
  exact of_decide_eq_true h.1
theorem encOk_low {e : ByteArray} {c : UInt8} (h : encOk e c = true) (hc : c.toNat < 128) : e.data.toList = [c] := by
  unfold encOk at h
  rw [Bool.and_eq_true, if_pos hc] at h
  exact eq_of_beq h.2
theorem encOk_high {e : ByteArray} {c : UInt8} (h : encOk e c = true) (hc : 128 ≤ c.toNat) : ∃ d r, e.data.toList = d :: r ∧ 128 ≤ d.toNat := by
  unfold encOk at h
  rw [Bool.and_eq_true, if_neg (by omega)] at h
  generalize e.data.toList = E at h
  cases E with
  | nil => exact absurd h.2 (by simp)
  | cons d r => exact ⟨d, r, rfl, of_decide_eq_true h.2⟩
theorem enc_f : EncF (fun c => (encR c).data.toList) :=
  ⟨fun c h => encOk_low (enc_one c) h, fun c h => encOk_high (enc_one c) h⟩
end Go.Proofs.YtfmnlgepllgpnaaGreatDoor
