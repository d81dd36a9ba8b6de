/- The walk of the law ValueParts: patterns go together. -/
import Derived.Test.YticlmegcpneckabDoorCat
import Derived.Deep.QuietTactic
import Derived.BigQuiet
namespace Go.Proofs.YticlmegcpneckabDoor
open Go.RowKit
set_option linter.unusedVariables false

theorem like_append (p q a b : List UInt8) (h1 : likeL p a = true) (h2 : likeL q b = true) : likeL (p ++ q) (a ++ b) = true := by
  induction p generalizing a with
  | nil =>
    simp [likeL] at h1
    subst h1
    exact h2
  | cons c p ih =>
    by_cases hc : c = 37
    · subst hc
      rw [like_pct] at h1
      obtain ⟨j, hj, h1⟩ := h1
      rw [List.cons_append, like_pct]
      exact ⟨j, by simp; omega, by rw [List.drop_append_of_le_length hj]; exact ih _ h1⟩
    · rw [like_one hc] at h1
      obtain ⟨x, a', rfl, hx, h1⟩ := h1
      rw [List.cons_append, like_one hc]
      exact ⟨x, a' ++ b, rfl, hx, ih _ h1⟩
theorem like_self (a : List UInt8) (h : ∀ c ∈ a, c ≠ 37 ∧ c ≠ 95) : likeL a a = true := by
  induction a with
  | nil => rfl
  | cons c a ih =>
    rw [like_one (h c (by simp)).1]
    exact ⟨c, a, rfl, Or.inr rfl, ih fun d hd => h d (by simp [hd])⟩
theorem like_all (a : List UInt8) : likeL [37] a = true := by
  rw [like_pct]
  exact ⟨a.length, Nat.le_refl _, by simp [likeL]⟩
theorem ne95n {c : UInt8} (h : ((c.toNat : Int) != 95) = true) : c ≠ 95 := by rintro rfl; simp at h
theorem plain_self (a : ByteArray) (h : ∀ j (hj : j < a.size), a[j] ≠ 37 ∧ a[j] ≠ 95) : likeL a.data.toList a.data.toList = true := by
  refine like_self _ fun c hc => ?_
  obtain ⟨k, hk, rfl⟩ := List.getElem_of_mem hc
  rw [len_list] at hk
  rw [at_list a k hk]
  exact h k hk
theorem like_pct_any (a : ByteArray) (w : World) (ha : a.size ≤ maxLen) :
    Calls Tryd.prog 15 #[.string a, .string ⟨#[37]⟩] w fun e w' => e = .returned (.bool true) ∧ Below w.heap.size w w' := by
  have h := like_any a ⟨#[37]⟩ w ha (by decide)
  rw [show likeL (⟨#[37]⟩ : ByteArray).data.toList a.data.toList = true from like_all _] at h
  exact h
theorem like_is (t p : ByteArray) (b : Bool) (w : World) (ht : t.size ≤ 1000) (hp : p.size ≤ 1000) (h : likeL p.data.toList t.data.toList = b) :
    Calls Tryd.prog 15 #[.string t, .string p] w fun e w' => e = .returned (.bool b) ∧ Below w.heap.size w w' := by
  have g := like_any t p w (by unfold maxLen; omega) (by unfold maxLen; omega)
  rw [h] at g
  exact g
theorem cat_is (a b : ByteArray) (w : World) (h : a.size + b.size ≤ 400) :
    Calls Tryd.prog 16 #[val 2 0 a false, val 2 0 b false] w fun e w' => e = .returned (.tuple #[val 2 0 (a ++ b) false, .string sDone]) ∧ Below w.heap.size w w' := by
  have g := concat_any 2 0 a false 2 0 b false w (by omega)
  rw [show catOk a b = true by simpa [catOk] using h] at g
  exact g
theorem app_list (a b : ByteArray) : (a ++ b).data.toList = a.data.toList ++ b.data.toList := by simp

set_option maxHeartbeats 4000000 in
theorem parts_law (a p b q : ByteArray) (w : World) (ha : a.size ≤ maxLen) (hp : p.size ≤ maxLen) (hb : b.size ≤ maxLen) (hq : q.size ≤ maxLen) :
    Calls Tryd.prog 5 #[.agg #[.string a, .string p, .string b, .string q]] w fun e w' => e = .returned (.bool true) ∧ Below w.heap.size w w' := by
  clear ha hp hb hq
  by_cases ca : 100 < a.size
  · go_enter Tryd.func5, Tryd.ntmps5
    go_wp2_with fail
    go_quiet (fail)
    go_wp2_with fail
    refine (alive_any _).mono ?_
    rintro e w1 ⟨rfl, hb⟩
    have h1 : Below w.heap.size w w1 := keepA (below_drewN ((Below.refl _ _).alloc (Nat.le_refl _) _) _) hb
    go_wp2
    go_ret
    exact ⟨rfl, h1⟩
  by_cases cb : 100 < b.size
  · go_enter Tryd.func5, Tryd.ntmps5
    go_wp2_with fail
    go_quiet (fail)
    go_wp2_with fail
    refine (alive_any _).mono ?_
    rintro e w1 ⟨rfl, hb⟩
    have h1 : Below w.heap.size w w1 := keepA (below_drewN ((Below.refl _ _).alloc (Nat.le_refl _) _) _) hb
    go_wp2
    go_ret
    exact ⟨rfl, h1⟩
  by_cases cp : 100 < p.size
  · go_enter Tryd.func5, Tryd.ntmps5
    go_wp2_with fail
    go_quiet (fail)
    go_wp2_with fail
    refine (alive_any _).mono ?_
    rintro e w1 ⟨rfl, hb⟩
    have h1 : Below w.heap.size w w1 := keepA (below_drewN ((Below.refl _ _).alloc (Nat.le_refl _) _) _) hb
    go_wp2
    go_ret
    exact ⟨rfl, h1⟩
  by_cases cq : 100 < q.size
  · go_enter Tryd.func5, Tryd.ntmps5
    go_wp2_with fail
    go_quiet (fail)
    go_wp2_with fail
    refine (alive_any _).mono ?_
    rintro e w1 ⟨rfl, hb⟩
    have h1 : Below w.heap.size w w1 := keepA (below_drewN ((Below.refl _ _).alloc (Nat.le_refl _) _) _) hb
    go_wp2
    go_ret
    exact ⟨rfl, h1⟩
  have HL : Hid (likeL p.data.toList a.data.toList = true → likeL q.data.toList b.data.toList = true → likeL (p ++ q).data.toList (a ++ b).data.toList = true) := fun g1 g2 => by
    rw [app_list, app_list]; exact like_append _ _ _ _ g1 g2
  have HZ : Hid (a.size ≤ 100 ∧ b.size ≤ 100 ∧ p.size ≤ 100 ∧ q.size ≤ 100) := ⟨by omega, by omega, by omega, by omega⟩
  go_enter Tryd.func5, Tryd.ntmps5
  go_wp2_with fail
  go_quiet (fail)
  go_wp2_with fail
  refine (like_is a p _ _ (by have := HZ.out; omega) (by have := HZ.out; omega) rfl).mono ?_
  rintro e w1 ⟨rfl, hb⟩
  have h1 : Below w.heap.size w w1 := keepA (below_drewN ((Below.refl _ _).alloc (Nat.le_refl _) _) _) hb
  clear hb
  cases g1 : likeL p.data.toList a.data.toList
  · go_wp2
    clear HL
    go_loop [8, 9] (fun pl i => ∃ (k : Nat) (pb : Bool), k ≤ a.size ∧ i = .int .i64 k ∧ pl = .bool pb ∧ Hid (pb = true → ∀ j (hj : j < k) (h2 : j < a.size), a[j] ≠ 37 ∧ a[j] ≠ 95)) (fun _ i => a.size - (intOf i).toNat)
    case atStart => exact ⟨0, true, Nat.zero_le _, rfl, rfl, fun _ j hj => by omega⟩
    case round =>
      obtain ⟨k, pb, hk, rfl, rfl, HP⟩ := hrel
      by_cases hlt : k < a.size
      · cases pb
        · go_wp2
          refine ⟨⟨k + 1, false, hlt, by go_num, rfl, fun h => by cases h⟩, by simp [intOf]; omega⟩
        · cases c37 : ((a[k].toNat : Int) != 37)
          · go_wp2
            refine ⟨⟨k + 1, false, hlt, by go_num, rfl, fun h => by cases h⟩, by simp [intOf]; omega⟩
          · cases c95 : ((a[k].toNat : Int) != 95)
            · go_wp2
              refine ⟨⟨k + 1, false, hlt, by go_num, rfl, fun h => by cases h⟩, by simp [intOf]; omega⟩
            · go_wp2
              refine ⟨⟨k + 1, true, hlt, by go_num, rfl, fun _ j hj h2 => ?_⟩, by simp [intOf]; omega⟩
              by_cases e : j = k
              · subst e; exact ⟨not37 c37, ne95n c95⟩
              · exact HP.out rfl j (by omega) h2
      · have HS : Hid (pb = true → likeL a.data.toList a.data.toList = true) := fun h => plain_self a fun j hj => HP.out h j (by omega) hj
        clear HP
        go_wp2_with fail
        refine (text_any a _).mono ?_
        rintro e w5 ⟨rfl, hb⟩
        have h5 := keepA (W0 := w) h1 hb
        clear hb h1
        go_wp2_with fail
        refine (text_any b _).mono ?_
        rintro e w6 ⟨rfl, hb⟩
        have h6 := keepA (W0 := w) h5 hb
        clear hb h5
        go_wp2_with fail
        refine (cat_is a b _ (by have := HZ.out; omega)).mono ?_
        rintro e w7 ⟨rfl, hb⟩
        have h7 := keepA (W0 := w) h6 hb
        clear hb h6
        go_wp2_with fail
        refine (alive_any _).mono ?_
        rintro e w8 ⟨rfl, hb⟩
        have h8 := keepA (W0 := w) (below_alloc h7 _) hb
        have v8 : Box w8 w7.heap.size 2 0 (a ++ b) false := (Box.new w7 2 0 (a ++ b) false _).keep hb
        clear hb h7
        cases pb
        · go_wp2_with fail
          refine (like_pct_any a _ (by have := HZ.out; unfold maxLen; omega)).mono ?_
          rintro e w9 ⟨rfl, hb⟩
          have h9 := keepA (W0 := w) h8 hb
          have v9 := v8.keep hb
          clear hb h8 v8
          obtain ⟨e0, e1, e2, e3⟩ := v9
          go_wp2
          go_ret
          exact ⟨rfl, h9⟩
        · go_wp2_with fail
          refine (like_is a a true _ (by have := HZ.out; omega) (by have := HZ.out; omega) (HS.out (by first | rfl | trivial))).mono ?_
          rintro e w9 ⟨rfl, hb⟩
          have h9 := keepA (W0 := w) h8 hb
          have v9 := v8.keep hb
          clear hb h8 v8
          go_wp2_with fail
          refine (like_pct_any a _ (by have := HZ.out; unfold maxLen; omega)).mono ?_
          rintro e w10 ⟨rfl, hb⟩
          have h10 := keepA (W0 := w) h9 hb
          have v10 := v9.keep hb
          clear hb h9 v9
          obtain ⟨e0, e1, e2, e3⟩ := v10
          go_wp2
          go_ret
          exact ⟨rfl, h10⟩
  · go_wp2_with fail
    refine (like_is b q _ _ (by have := HZ.out; omega) (by have := HZ.out; omega) rfl).mono ?_
    rintro e w2 ⟨rfl, hb⟩
    have h2 : Below w.heap.size w w2 := keepA h1 hb
    clear hb h1
    cases g2 : likeL q.data.toList b.data.toList
    · go_wp2
      clear HL
      go_loop [8, 9] (fun pl i => ∃ (k : Nat) (pb : Bool), k ≤ a.size ∧ i = .int .i64 k ∧ pl = .bool pb ∧ Hid (pb = true → ∀ j (hj : j < k) (h2 : j < a.size), a[j] ≠ 37 ∧ a[j] ≠ 95)) (fun _ i => a.size - (intOf i).toNat)
      case atStart => exact ⟨0, true, Nat.zero_le _, rfl, rfl, fun _ j hj => by omega⟩
      case round =>
        obtain ⟨k, pb, hk, rfl, rfl, HP⟩ := hrel
        by_cases hlt : k < a.size
        · cases pb
          · go_wp2
            refine ⟨⟨k + 1, false, hlt, by go_num, rfl, fun h => by cases h⟩, by simp [intOf]; omega⟩
          · cases c37 : ((a[k].toNat : Int) != 37)
            · go_wp2
              refine ⟨⟨k + 1, false, hlt, by go_num, rfl, fun h => by cases h⟩, by simp [intOf]; omega⟩
            · cases c95 : ((a[k].toNat : Int) != 95)
              · go_wp2
                refine ⟨⟨k + 1, false, hlt, by go_num, rfl, fun h => by cases h⟩, by simp [intOf]; omega⟩
              · go_wp2
                refine ⟨⟨k + 1, true, hlt, by go_num, rfl, fun _ j hj h2 => ?_⟩, by simp [intOf]; omega⟩
                by_cases e : j = k
                · subst e; exact ⟨not37 c37, ne95n c95⟩
                · exact HP.out rfl j (by omega) h2
        · have HS : Hid (pb = true → likeL a.data.toList a.data.toList = true) := fun h => plain_self a fun j hj => HP.out h j (by omega) hj
          clear HP
          go_wp2_with fail
          refine (text_any a _).mono ?_
          rintro e w5 ⟨rfl, hb⟩
          have h5 := keepA (W0 := w) h2 hb
          clear hb h2
          go_wp2_with fail
          refine (text_any b _).mono ?_
          rintro e w6 ⟨rfl, hb⟩
          have h6 := keepA (W0 := w) h5 hb
          clear hb h5
          go_wp2_with fail
          refine (cat_is a b _ (by have := HZ.out; omega)).mono ?_
          rintro e w7 ⟨rfl, hb⟩
          have h7 := keepA (W0 := w) h6 hb
          clear hb h6
          go_wp2_with fail
          refine (alive_any _).mono ?_
          rintro e w8 ⟨rfl, hb⟩
          have h8 := keepA (W0 := w) (below_alloc h7 _) hb
          have v8 : Box w8 w7.heap.size 2 0 (a ++ b) false := (Box.new w7 2 0 (a ++ b) false _).keep hb
          clear hb h7
          cases pb
          · go_wp2_with fail
            refine (like_pct_any a _ (by have := HZ.out; unfold maxLen; omega)).mono ?_
            rintro e w9 ⟨rfl, hb⟩
            have h9 := keepA (W0 := w) h8 hb
            have v9 := v8.keep hb
            clear hb h8 v8
            obtain ⟨e0, e1, e2, e3⟩ := v9
            go_wp2
            go_ret
            exact ⟨rfl, h9⟩
          · go_wp2_with fail
            refine (like_is a a true _ (by have := HZ.out; omega) (by have := HZ.out; omega) (HS.out (by first | rfl | trivial))).mono ?_
            rintro e w9 ⟨rfl, hb⟩
            have h9 := keepA (W0 := w) h8 hb
            have v9 := v8.keep hb
            clear hb h8 v8
            go_wp2_with fail
            refine (like_pct_any a _ (by have := HZ.out; unfold maxLen; omega)).mono ?_
            rintro e w10 ⟨rfl, hb⟩
            have h10 := keepA (W0 := w) h9 hb
            have v10 := v9.keep hb
            clear hb h9 v9
            obtain ⟨e0, e1, e2, e3⟩ := v10
            go_wp2
            go_ret
            exact ⟨rfl, h10⟩
    · go_wp2_with fail
      refine (like_is (a ++ b) (p ++ q) true _ (by have := HZ.out; simp; omega) (by have := HZ.out; simp; omega) (HL.out g1 g2)).mono ?_
      rintro e w3 ⟨rfl, hb⟩
      have h3 : Below w.heap.size w w3 := keepA h2 hb
      clear hb h2
      go_wp2
      clear HL
      go_loop [8, 9] (fun pl i => ∃ (k : Nat) (pb : Bool), k ≤ a.size ∧ i = .int .i64 k ∧ pl = .bool pb ∧ Hid (pb = true → ∀ j (hj : j < k) (h2 : j < a.size), a[j] ≠ 37 ∧ a[j] ≠ 95)) (fun _ i => a.size - (intOf i).toNat)
      case atStart => exact ⟨0, true, Nat.zero_le _, rfl, rfl, fun _ j hj => by omega⟩
      case round =>
        obtain ⟨k, pb, hk, rfl, rfl, HP⟩ := hrel
        by_cases hlt : k < a.size
        · cases pb
          · go_wp2
            refine ⟨⟨k + 1, false, hlt, by go_num, rfl, fun h => by cases h⟩, by simp [intOf]; omega⟩
          · cases c37 : ((a[k].toNat : Int) != 37)
            · go_wp2
              refine ⟨⟨k + 1, false, hlt, by go_num, rfl, fun h => by cases h⟩, by simp [intOf]; omega⟩
            · cases c95 : ((a[k].toNat : Int) != 95)
              · go_wp2
                refine ⟨⟨k + 1, false, hlt, by go_num, rfl, fun h => by cases h⟩, by simp [intOf]; omega⟩
              · go_wp2
                refine ⟨⟨k + 1, true, hlt, by go_num, rfl, fun _ j hj h2 => ?_⟩, by simp [intOf]; omega⟩
                by_cases e : j = k
                · subst e; exact ⟨not37 c37, ne95n c95⟩
                · exact HP.out rfl j (by omega) h2
        · have HS : Hid (pb = true → likeL a.data.toList a.data.toList = true) := fun h => plain_self a fun j hj => HP.out h j (by omega) hj
          clear HP
          go_wp2_with fail
          refine (text_any a _).mono ?_
          rintro e w5 ⟨rfl, hb⟩
          have h5 := keepA (W0 := w) h3 hb
          clear hb h3
          go_wp2_with fail
          refine (text_any b _).mono ?_
          rintro e w6 ⟨rfl, hb⟩
          have h6 := keepA (W0 := w) h5 hb
          clear hb h5
          go_wp2_with fail
          refine (cat_is a b _ (by have := HZ.out; omega)).mono ?_
          rintro e w7 ⟨rfl, hb⟩
          have h7 := keepA (W0 := w) h6 hb
          clear hb h6
          go_wp2_with fail
          refine (alive_any _).mono ?_
          rintro e w8 ⟨rfl, hb⟩
          have h8 := keepA (W0 := w) (below_alloc h7 _) hb
          have v8 : Box w8 w7.heap.size 2 0 (a ++ b) false := (Box.new w7 2 0 (a ++ b) false _).keep hb
          clear hb h7
          cases pb
          · go_wp2_with fail
            refine (like_pct_any a _ (by have := HZ.out; unfold maxLen; omega)).mono ?_
            rintro e w9 ⟨rfl, hb⟩
            have h9 := keepA (W0 := w) h8 hb
            have v9 := v8.keep hb
            clear hb h8 v8
            obtain ⟨e0, e1, e2, e3⟩ := v9
            go_wp2
            go_ret
            exact ⟨rfl, h9⟩
          · go_wp2_with fail
            refine (like_is a a true _ (by have := HZ.out; omega) (by have := HZ.out; omega) (HS.out (by first | rfl | trivial))).mono ?_
            rintro e w9 ⟨rfl, hb⟩
            have h9 := keepA (W0 := w) h8 hb
            have v9 := v8.keep hb
            clear hb h8 v8
            go_wp2_with fail
            refine (like_pct_any a _ (by have := HZ.out; unfold maxLen; omega)).mono ?_
            rintro e w10 ⟨rfl, hb⟩
            have h10 := keepA (W0 := w) h9 hb
            have v10 := v9.keep hb
            clear hb h9 v9
            obtain ⟨e0, e1, e2, e3⟩ := v10
            go_wp2
            go_ret
            exact ⟨rfl, h10⟩
end Go.Proofs.YticlmegcpneckabDoor
