/- The walk of the law RowSizes: how long a row's bytes are. -/
import Derived.Test.YtfmnlgepllgpnaaRAWalk
namespace Go.Proofs.Ytfmnlgepllgpnaa
open Go.RowKit
set_option linter.unusedVariables false

/-- How many bytes a value has. -/
def sz (v : V4) : Nat := 1 + (if v.1 = 1 then 8 else 0) + (if v.1 = 2 then 2 + v.2.2.1.length else 0)
def szL (l : List V4) : Nat := (l.map sz).sum
theorem sz_rc {v : V4} (h : RightQ v) : (rc v).length = sz v := by
  rcases right_kind h with e | e | e | e
  · rw [rc_null e]; simp [sz, e]
  · rw [rc_num e]; simp [sz, e, leN_len]
  · rw [rc_text e]; simp [sz, e, leN_len]; omega
  · rw [rc_bool e]; simp [sz, e]
theorem szL_rc {l : List V4} (h : Rights l) : (rcL l).length = szL l := by
  induction l with
  | nil => rfl
  | cons v l ih =>
    rw [rcL_cons, List.length_append, sz_rc (rights_cons.1 h).1, ih (rights_cons.1 h).2]
    simp [szL]
theorem szL_take (l : List V4) (k : Nat) (h : k < l.length) : szL (l.take (k + 1)) = szL (l.take k) + sz l[k] := by
  unfold szL
  rw [List.take_succ_eq_append_getElem h, List.map_append, List.sum_append]
  simp
theorem sz_le {M : Nat} {v : V4} (h : v.2.2.1.length ≤ M) : sz v ≤ 11 + M := by
  unfold sz
  split <;> split <;> omega
theorem szL_le {M : Nat} {l : List V4} (h : ∀ x ∈ l, x.2.2.1.length ≤ M) (k : Nat) (hk : k ≤ 40) : szL (l.take k) ≤ 40 * (11 + M) := by
  have : ∀ m : List V4, (∀ x ∈ m, x.2.2.1.length ≤ M) → szL m ≤ m.length * (11 + M) := by
    intro m
    induction m with
    | nil => intro _; simp [szL]
    | cons v m ih =>
      intro hm
      have h1 := sz_le (hm v (by simp))
      have h2 := ih (fun x hx => hm x (by simp [hx]))
      have h3 : szL (v :: m) = sz v + szL m := by simp [szL]
      rw [h3, List.length_cons, Nat.succ_mul]; omega
  have h1 := this (l.take k) (fun x hx => h x (List.mem_of_mem_take hx))
  have h2 : (l.take k).length ≤ 40 := by rw [List.length_take]; omega
  exact Nat.le_trans h1 (Nat.mul_le_mul_right _ h2)
/-- Is it long, as far as it has been looked at? -/
def longK (l : List V4) (k : Nat) : Bool := decide (12 < l.length) || (l.take k).any longV
theorem longK_succ (l : List V4) (k : Nat) (h : k < l.length) : longK l (k + 1) = (longK l k || longV l[k]) := by
  unfold longK
  rw [any_take_succ longV l k h, Bool.or_assoc]
theorem longK_all (l : List V4) : longK l l.length = longR l := by unfold longK longR; rw [List.take_length]

set_option maxHeartbeats 4000000 in
theorem rowSizes_law (u : Value) (a : List V4) (w : World) (hu : RowAt w u a) (ha : ∀ x ∈ a, RawOk 140737488355328 x) (la : a.length ≤ 1099511627776000) :
    Calls Try.prog 6 #[u] w fun e w' => e = .returned (.bool true) ∧ Below w.heap.size w w' := by
  go_enter Try.func6, Try.ntmps6
  go_wp2_with fail
  refine (row_any 140737488355328 u a _ hu ha (by omega)).mono ?_
  rintro e w1 ⟨x, l, rfl, ox, okx, h1⟩
  have rx := ox.row
  have hll := okx.len
  clear hu ha ox
  have HB : Hid (∀ k, k ≤ 40 → szL (l.take k) ≤ 40 * (11 + 140737488355328)) := fun k hk => szL_le okx.texts k hk
  have HT : Hid (∀ k (h : k < l.length), szL (l.take (k + 1)) = szL (l.take k) + sz l[k]) := szL_take l
  have HK : Hid (∀ k (h : k < l.length), longK l (k + 1) = (longK l k || longV l[k])) := longK_succ l
  go_wp2_with fail
  refine (enc_row rx okx).mono ?_
  rintro e w2 ⟨hE, h2⟩
  have rx2 := rx.keep h2
  have H2 := keepA h1 h2
  have HR : Hid (∀ k (h : k < l.length), l[k].2.2.1.length ≤ 140737488355328) := fun k h => okx.texts _ (List.getElem_mem h)
  obtain ⟨ao, cap, rfl, hcap, hcells⟩ := id rx2
  -- what is told, as one pair
  obtain ⟨bv0, ev, rfl, HE⟩ : ∃ bv0 ev, e = .returned (.tuple #[bv0, .int .i64 ev]) ∧ Hid ((longR l = true ∧ bv0 = .slice none 0 0 ∧ ev = 42) ∨ (longR l = false ∧ ev = 0 ∧ ∃ bo bc, bv0 = .slice bo (1 + szL l) bc)) := by
    rcases hE with ⟨hl, rfl⟩ | ⟨hok, p, rfl, op⟩
    · exact ⟨_, _, rfl, Or.inl ⟨hl.out, rfl, rfl⟩⟩
    · obtain ⟨bo, bc, hp⟩ := op.slice
      refine ⟨_, _, rfl, Or.inr ⟨ok_not_long hok.out, rfl, bo, bc, ?_⟩⟩
      rw [hp, form, List.length_cons, szL_rc okx.rights, Nat.add_comm]
  clear hE rx rx2 h1 h2 okx
  have HL0 : Hid (longK l 0 = decide ((12 : Int) < l.length)) := by
    show _ = _
    unfold longK
    simp
    omega
  go_wp2
  go_loop [6, 7, 8] (fun n g i => ∃ k : Nat, k ≤ l.length ∧ i = .int .i64 k ∧ n = .int .i64 ((1 + szL (l.take k) : Nat) : Int) ∧ g = .bool (longK l k)) (fun _ _ i => l.length - (intOf i).toNat)
  case atStart => exact ⟨0, Nat.zero_le _, rfl, rfl, by rw [HL0.out]⟩
  case round =>
    obtain ⟨k, hk, rfl, rfl, rfl⟩ := hrel
    by_cases hlt : k < l.length
    · obtain ⟨g, o, K, N, S, B, rfl, hx, hr⟩ := row_cell hlt hcells
      have c0 : w2.cell? ⟨g, o + k * 4, none⟩ = some (.int .i64 K) := hr 0 _ rfl
      have c2 : w2.cell? ⟨g, o + k * 4 + 2, none⟩ = some (.string S) := hr 2 _ rfl
      have HB1 : szL (l.take k) ≤ 40 * (11 + 140737488355328) := HB.out k (by omega)
      have HT1 : Hid (szL (l.take (k + 1)) = szL (l.take k) + sz (K, N, S.data.toList, B)) := by
        have := HT.out k hlt
        rwa [hx] at this
      have HK1 : Hid (longK l (k + 1) = (longK l k || longV (K, N, S.data.toList, B))) := by
        have := HK.out k hlt
        rwa [hx] at this
      have hS : S.size ≤ 140737488355328 := by
        have := HR.out k hlt
        rw [hx] at this
        simpa using this
      clear hr hcells hx HB HT HK HR HE HL0
      generalize longK l k = lg at *
      generalize szL (l.take k) = z at *
      by_cases k1 : K = 1
      · subst k1
        have HZ : Hid (szL (l.take (k + 1)) = z + 9) := by
          have := HT1.out
          show _ = _
          simpa [sz] using this
        have HG : Hid (longK l (k + 1) = lg) := by
          have := HK1.out
          show _ = _
          simpa [longV] using this
        clear HT1 HK1
        go_wp2
        refine ⟨⟨k + 1, by omega, by go_num, by rw [HZ.out]; go_num, by rw [HG.out]⟩, by simp [intOf]; omega⟩
      by_cases k2 : K = 2
      · subst k2
        have HZ : Hid (szL (l.take (k + 1)) = z + 3 + S.size) := by
          have := HT1.out
          simp [sz] at this
          show _ = _
          omega
        have HG : Hid (longK l (k + 1) = (lg || decide (400 < S.size))) := by
          have := HK1.out
          show _ = _
          simpa [longV] using this
        clear HT1 HK1 k1
        cases lg
        · by_cases h4 : 400 < S.size
          · go_wp2
            refine ⟨⟨k + 1, by omega, by go_num, by rw [HZ.out]; go_num, by rw [HG.out]; simp [h4]; omega⟩, by simp [intOf]; omega⟩
          · go_wp2
            refine ⟨⟨k + 1, by omega, by go_num, by rw [HZ.out]; go_num, by rw [HG.out]; simp [h4]; omega⟩, by simp [intOf]; omega⟩
        · go_wp2
          refine ⟨⟨k + 1, by omega, by go_num, by rw [HZ.out]; go_num, by rw [HG.out]; simp⟩, by simp [intOf]; omega⟩
      · have z1 : (K == 1) = false := by simp [k1]
        have z2 : (K == 2) = false := by simp [k2]
        have HZ : Hid (szL (l.take (k + 1)) = z + 1) := by
          have := HT1.out
          show _ = _
          simpa [sz, k1, k2] using this
        have HG : Hid (longK l (k + 1) = lg) := by
          have := HK1.out
          show _ = _
          simpa [longV, z2] using this
        clear HT1 HK1 k1 k2
        go_wp2
        refine ⟨⟨k + 1, by omega, by go_num, by rw [HZ.out]; go_num, by rw [HG.out]⟩, by simp [intOf]; omega⟩
    · obtain rfl : k = l.length := by omega
      rw [longK_all, List.take_length]
      have hz : szL l ≤ 40 * (11 + 140737488355328) := by
        have := HB.out l.length hll
        rwa [List.take_length] at this
      clear HB HT HK HR HL0 hcells
      rcases HE.out with ⟨hl, rfl, rfl⟩ | ⟨hl, rfl, bo, bc, rfl⟩
      · clear HE
        rw [hl]
        go_wp2_with fail
        refine (alive_any _).mono ?_
        rintro e w3 ⟨rfl, h3⟩
        have H3 := keepA H2 h3
        go_wp2
        go_ret
        exact ⟨rfl, H3⟩
      · clear HE
        rw [hl]
        go_wp2_with fail
        refine (alive_any _).mono ?_
        rintro e w3 ⟨rfl, h3⟩
        have H3 := keepA H2 h3
        go_wp2
        go_ret
        exact ⟨rfl, H3⟩
end Go.Proofs.Ytfmnlgepllgpnaa
