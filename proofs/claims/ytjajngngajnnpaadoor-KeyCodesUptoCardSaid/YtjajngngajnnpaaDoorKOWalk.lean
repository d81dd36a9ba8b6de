/- The walk of the law KeyOrder: keys stand as their values do. -/
import Derived.Test.YtjajngngajnnpaaDoorK3L
namespace Go.Proofs.YtjajngngajnnpaaDoor
open Go.RowKit
set_option linter.unusedVariables false

theorem code1_len {M : Nat} {x : V4} (h : RightQ x) (ht : x.2.2.1.length ≤ M) : (code1 x).length ≤ 2 * M + 9 := by
  rcases right_kind h with e | e | e | e
  · rw [code_null e]; simp
  · rw [code_num e]; simp [beN_len]
  · rw [code_text e]
    have h1 := esc_len (trimL x.2.2.1)
    have h2 := trimL_len x.2.2.1
    simp; omega
  · rw [code_bool e]; simp
theorem codeL_len {M : Nat} : ∀ {l : List V4}, Rights l → (∀ x ∈ l, x.2.2.1.length ≤ M) → (codeL l).length ≤ l.length * (2 * M + 9)
  | [], _, _ => by simp [codeL]
  | x :: l, h, ht => by
    have h1 := code1_len (rights_cons.1 h).1 (ht x (by simp))
    have h2 := codeL_len (rights_cons.1 h).2 (fun y hy => ht y (by simp [hy]))
    rw [codeL_cons, List.length_append, List.length_cons, Nat.succ_mul]
    omega
theorem rowOk_code {M : Nat} {l : List V4} (h : RowOk M l) : (codeL l).length ≤ 40 * (2 * M + 9) :=
  Nat.le_trans (codeL_len h.rights h.texts) (Nat.mul_le_mul_right _ h.len)
theorem enc_ok {l : List V4} {v : Value} {w : World} (hr : RowIs w v l) (h : RowOk 1048576 l) :
    Calls Tryd.prog 13 #[v] w fun e w' => e = .returned (.string ⟨(codeL l).toArray⟩) ∧ Below w.heap.size w w' :=
  encode_any v l w hr h.rights (by have := rowOk_code h; omega) (fun x hx => by have := h.texts x hx; omega) (by have := h.len; omega)
theorem ord_ok {l m : List V4} {u v : Value} {w : World} (hu : RowIs w u l) (hv : RowIs w v m) (h : RowOk 1048576 l) (k : RowOk 1048576 m) :
    Calls Tryd.prog 16 #[u, v] w fun e w' => e = .returned (.int .i64 (ordL l m)) ∧ Below w.heap.size w w' :=
  order_any u v l m w hu hv h.rights (fun x hx => by have := h.texts x hx; omega) (fun x hx => by have := k.texts x hx; omega) (by have := h.len; omega) (by have := k.len; omega)
theorem OwnR.rowKeep {base : Nat} {W w' : World} {v : Value} {l : List V4} (h : OwnR base W v l) (hb : Below W.heap.size W w') : RowIs w' v l := h.row.keep hb

theorem ret_true {b : Bool} (h : b = true) : Ending.returned (.bool b) = .returned (.bool true) := by rw [h]
theorem test_zero (z : Int) : (decide (z = 0) == (z == 0)) = true := by by_cases h : z = 0 <;> simp [h]

set_option maxHeartbeats 1000000 in
theorem keyOrder_law (u v : Value) (a b : List V4) (w : World) (hu : RawsAt w u a) (hv : RawsAt w v b) (ha : ∀ x ∈ a, RawOk 1048576 x) (hb : ∀ x ∈ b, RawOk 1048576 x) (la : a.length ≤ 1048576) (lb : b.length ≤ 1048576) :
    Calls Tryd.prog 4 #[u, v] w fun e w' => e = .returned (.bool true) ∧ Below w.heap.size w w' := by
  go_enter Tryd.func4, Tryd.ntmps4
  go_wp2_with fail
  refine (row_any 1048576 u a _ hu ha (by omega)).mono ?_
  rintro e w1 ⟨x, l, rfl, ox, okx, h1⟩
  have hv1 := hv.keep h1
  have rx := ox.row
  clear hu hv ha ox
  go_wp2_with fail
  refine (row_any 1048576 v b _ hv1 hb (by omega)).mono ?_
  rintro e w2 ⟨y, m, rfl, oy, oky, h2⟩
  have rx2 := rx.keep h2
  have ry2 := oy.row
  have H2 := keepA h1 h2
  clear hv1 hb oy h1 h2 rx
  go_wp2_with fail
  refine (enc_ok rx2 okx).mono ?_
  rintro e w3 ⟨rfl, h3⟩
  have rx3 := rx2.keep h3
  have ry3 := ry2.keep h3
  have H3 := keepA H2 h3
  clear h3 H2 rx2 ry2
  go_wp2_with fail
  refine (enc_ok ry3 oky).mono ?_
  rintro e w4 ⟨rfl, h4⟩
  have rx4 := rx3.keep h4
  have ry4 := ry3.keep h4
  have H4 := keepA H3 h4
  clear h4 H3 rx3 ry3
  go_wp2_with fail
  refine (ord_ok rx4 ry4 okx oky).mono ?_
  rintro e w5 ⟨rfl, h5⟩
  have H5 := keepA H4 h5
  clear h5 H4 rx4 ry4
  go_wp2_with fail
  refine (alive_any _).mono ?_
  rintro e w6 ⟨rfl, h6⟩
  have H6 := keepA H5 h6
  clear h6 H5
  have k1 := key_less okx.rights oky.rights
  have k2 := key_same okx.rights oky.rights
  go_wp2
  go_ret
  exact ⟨ret_true (test_zero _), H6⟩
end Go.Proofs.YtjajngngajnnpaaDoor
