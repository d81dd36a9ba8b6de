/- Format and Open that refuse; what stands behind the frames of a clean region. -/
import Derived.Test.YtcjoolmlobjpbaaW6S
import Derived.Test.YtcjoolmlobjpbaaW6T
import Derived.Test.YtcjoolmlobjpbaaW6U
namespace Go.Proofs.Ytcjoolmlobjpbaa
open Go.RowKit Go.Maps
set_option linter.unusedVariables false
set_option linter.unusedSimpArgs false

theorem format_refused (p : Value) (f s c : Int) (hc : c = 1 ∨ c = 64) (w : World) (h : Calls Try.prog 29 #[p, .int .i64 f, .int .i64 s] w fun e w' => e = .returned (.int .i64 c) ∧ w' = w) :
    Calls Try.prog 11 #[p, .int .i64 f, .int .i64 s] w fun e w' => e = .returned (.tuple #[.pointer none, .int .i64 c]) ∧ w' = w := by
  rcases hc with rfl | rfl
  all_goals
    go_enter Try.func11, Try.ntmps11
    go_wp2_with (go_at_call 29; refine h.mono ?_; rintro e wx ⟨rfl, hwx⟩; subst hwx)
    exact bodyPost_ret (v := .tuple #[.pointer none, .int .i64 _]) (by simp [results, Try.results11, go_sem]) rfl ⟨rfl, rfl⟩
theorem open_refused (p : Value) (f s c : Int) (hc : c = 1 ∨ c = 64) (w : World) (h : Calls Try.prog 29 #[p, .int .i64 f, .int .i64 s] w fun e w' => e = .returned (.int .i64 c) ∧ w' = w) :
    Calls Try.prog 13 #[p, .int .i64 f, .int .i64 s] w fun e w' => e = .returned (.tuple #[.pointer none, .int .i64 c]) ∧ w' = w := by
  rcases hc with rfl | rfl
  all_goals
    go_enter Try.func13, Try.ntmps13
    go_wp2_with (go_at_call 29; refine h.mono ?_; rintro e wx ⟨rfl, hwx⟩; subst hwx)
    exact bodyPost_ret (v := .tuple #[.pointer none, .int .i64 _]) (by simp [results, Try.results13, go_sem]) rfl ⟨rfl, rfl⟩
theorem clean_zero {g : Int → List UInt8} (hg : ∀ i, (g i).length = 128) {first : Int} {n : Nat} {l : List (List UInt8)} (h : Clean g first n (frames l)) (hle : sizeL l ≤ 128 * n) : zerosB ((reg g first n).drop (sizeL l)) = true := by
  rw [h.reg hg hle]
  have e : (frames l ++ List.replicate (128 * n - (frames l).length) 0).drop (sizeL l) = List.replicate (128 * n - (frames l).length) (0 : UInt8) := by
    unfold sizeL
    rw [List.drop_append_of_le_length (Nat.le_refl _), List.drop_length, List.nil_append]
  rw [e, zerosB_rep, List.length_replicate]
theorem free_quiet {B : Nat} {w : World} {F G : Nat → Prop} {p pl : Value} {n : Nat} {D : DS} {first : Int} {m : Nat} {recs : List (List UInt8)} {fl : Nat} (h0 : Duo B w F G p pl n D first m recs fl) :
    Calls Try.prog 25 #[pl] w fun e w' => e = .returned (.int .i64 (128 * m - sizeL recs : Nat)) ∧ ∃ n, w' = w.drewN n := by
  obtain ⟨g, vf, vr, rfl, h⟩ := h0.l
  obtain ⟨c0, c1, c2, c3, c4, c5, fz⟩ := cells6 h.hg
  obtain ⟨aof, capf, rfl, hcf, _⟩ := h.fr.toBytes.form
  have hn : 1 ≤ m ∧ m ≤ 1024 := h.n
  have hlen : sizeL recs ≤ 128 * m := h.len
  have hcf' : sizeL recs ≤ capf := hcf
  have c2' : w.cell? ⟨g, 2, none⟩ = some (.int .i64 m) := c2
  have c3' : w.cell? ⟨g, 3, none⟩ = some (.slice aof (sizeL recs) capf) := c3
  clear h h0 c0 c1 c2 c3 c4 c5 hcf
  generalize sizeL recs = s at *
  go_enter Try.func25, Try.ntmps25
  go_wp2
  go_quiet (fail)
  go_wp2
  go_ret
  exact ⟨ret_int (by omega), _, rfl⟩
theorem own_len {base : Nat} {w : World} {ao : Option Addr} {vn vc : Nat} {vs : List Value} (h : OwnV base w (.slice ao vn vc) vs) : vn = vs.length := by
  rcases h with ⟨h1, ⟨hv, hn⟩ | ⟨g, cap, cur, hv, hg, hh, hc, _⟩⟩
  · cases hv; exact hn.symm
  · cases hv; rfl
theorem bytes_low {w : World} {v : Value} {xs : List UInt8} {a : Addr} {n c : Nat} (h : Bytes w v xs) (hne : xs ≠ []) (e : v = .slice (some a) n c) : a.block < w.heap.size := by
  rcases h with ⟨hv, h⟩ | ⟨a', cap, hv, hc, h⟩
  · exact absurd h hne
  · subst e
    cases hv
    have h0 : 0 < xs.length := List.length_pos_iff.2 hne
    have := World.block_lt_of_cell? w _ (h 0 h0)
    rwa [add_block] at this
theorem setup_range {w : World} {g : Nat} {a b c : Value} {t : TypeId} (h : w.heap[g]? = some (.cells #[a, b, c] t (0, 0))) : w.rangeAt g 0 [a, b, c] := fun j u hu => by
  match j, hu with
  | 0, hu => rw [cell_of_row _ _ _ _ _ _ h]; exact hu
  | 1, hu => rw [cell_of_row _ _ _ _ _ _ h]; exact hu
  | 2, hu => rw [cell_of_row _ _ _ _ _ _ h]; exact hu
theorem infoSetup : (Try.prog.info? 23).map (·.size) = some 3 := by kernel_rfl
end Go.Proofs.Ytcjoolmlobjpbaa
