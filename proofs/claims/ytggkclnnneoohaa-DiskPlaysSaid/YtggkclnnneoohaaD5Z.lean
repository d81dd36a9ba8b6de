/- The document's disk: Cut, CutAt. -/
import Derived.Test.YtggkclnnneoohaaD5Y
namespace Go.Proofs.Ytggkclnnneoohaa
open Go.RowKit Go.Maps
set_option linter.unusedVariables false
set_option linter.unusedSimpArgs false

/-- A new disk of the document's. -/
def RefOut (base : Nat) (w : World) (G : Nat → Prop) (N : Int) (F : List EV) (e : Ending) (w' : World) : Prop := ∃ c, e = .returned (.pointer (some ⟨c, 0, none⟩)) ∧ RefAt base w' (fun k => G k ∨ w.heap.size ≤ k ∧ k < w'.heap.size) (.pointer (some ⟨c, 0, none⟩)) N F [] ∧ Below w.heap.size w w'
theorem refCut_any {base : Nat} {w : World} {G : Nat → Prop} {q : Value} {N : Int} {F L : List EV} (h : RefAt base w G q N F L) (vk : Value) (ks : List Bool) (hks : Bools w vk ks) (hlen : F.length + L.length ≤ 1000) :
    Calls Try.prog 17 #[q, vk] w (RefOut base w G N (leftE ks (lastS L) L F).1) := by
  have h0 := h
  obtain ⟨g, vF, vL, rfl, h⟩ := h
  obtain ⟨c0, c1, c2, fz⟩ := cells3 h.hg
  have HK : Hid (Calls Try.prog 28 #[.pointer (some ⟨g, 0, none⟩), vL, vk] w (RefOut base w G N (leftE ks (lastS L) L F).1)) := left_any h0 vL L h.rL.row h.oL vk ks hks hlen
  clear h h0
  go_enter Try.func17, Try.ntmps17
  go_wp2_with (go_at_call 28; refine HK.out.mono ?_; rintro e wx ⟨c, rfl, h1, h2⟩)
  go_ret
  exact ⟨c, rfl, h1, h2⟩
theorem ERow.take {w : World} {ao : Option Addr} {cap : Nat} {l : List EV} (hc : l.length ≤ cap) (h : l = [] ∨ ∃ g o, ao = some ⟨g, o, none⟩ ∧ ∀ k (h : k < l.length), w.rangeAt g (o + k * 3) (cellsE l[k])) (t : Nat) (ht : t ≤ l.length) : ERow w (.slice ao t cap) (l.take t) := by
  refine ⟨ao, cap, by rw [List.length_take, Nat.min_eq_left ht], by rw [List.length_take]; omega, ?_⟩
  rcases h with h | ⟨g, o, h1, h2⟩
  · left; rw [h]; simp
  · right
    refine ⟨g, o, h1, fun k hk => ?_⟩
    rw [List.length_take] at hk
    rw [List.getElem_take]
    exact h2 k (by omega)
theorem RefOut.of_drewN {base : Nat} {w : World} {G : Nat → Prop} {N : Int} {F : List EV} {e : Ending} {w' : World} (n : Nat) (h : RefOut base (w.drewN n) G N F e w') : RefOut base w G N F e w' := by
  obtain ⟨c, he, h1, h2⟩ := h
  have hs : (w.drewN n).heap.size = w.heap.size := by simp
  rw [hs] at h1 h2
  exact ⟨c, he, h1, (below_drewN (Below.refl _ _) n).trans h2⟩
theorem upto_of {L : List EV} {m k : Nat} (hk : k ≤ L.length) (h1 : k = 0 ∨ cntE (L.take (k - 1)) < m) (h2 : m ≤ cntE (L.take k)) : UpTo L m k := by
  by_cases h0 : k = 0
  · subst h0
    have : cntE (L.take 0) = 0 := by simp [cntE]
    exact ⟨hk, by omega, Or.inl rfl⟩
  · obtain ⟨t, rfl⟩ : ∃ t, k = t + 1 := ⟨k - 1, by omega⟩
    have h3 : cntE (L.take t) < m := by rcases h1 with h1 | h1; omega; exact h1
    have hs := cntE_succ L t (by omega)
    cases h4 : L[t].sync
    · rw [h4] at hs
      simp only [Bool.false_eq_true, if_false] at hs
      exact ⟨hk, by omega, Or.inr ⟨by omega, h4⟩⟩
    · rw [h4] at hs
      simp only [if_true] at hs
      omega
set_option maxHeartbeats 4000000 in
theorem refCutAt_any {base : Nat} {w : World} {G : Nat → Prop} {q : Value} {N : Int} {F L : List EV} (h : RefAt base w G q N F L) (j : Int) (m : Nat) (hm : (m : Int) = max (min j (cntE L)) 0) (vk : Value) (ks : List Bool) (hks : Bools w vk ks) (hlen : F.length + L.length ≤ 1000) :
    Calls Try.prog 19 #[q, .int .i64 j, vk] w fun e w' => ∃ tt, UpTo L m tt ∧ RefOut base w G N (leftE ks (lastS (L.take tt)) (L.take tt) F).1 e w' := by
  have h0 := h
  obtain ⟨g, vF, vL, rfl, h⟩ := h
  obtain ⟨c0, c1, c2, fz⟩ := cells3 h.hg
  obtain ⟨ao, cap, hvL, hcap, hcl⟩ := h.rL.row
  subst hvL
  have hW := refWrites_any h0
  have hcl' := cntE_le L
  have HOL : Hid (∀ e ∈ L, EOk w G e) := h.oL
  have HR0 : Hid (RefAt base w G (.pointer (some ⟨g, 0, none⟩)) N F L) := h0
  have HCL : Hid (L = [] ∨ ∃ g o, ao = some ⟨g, o, none⟩ ∧ ∀ k (h : k < L.length), w.rangeAt g (o + k * 3) (cellsE L[k])) := hcl
  have HK0 : Hid (Bools w vk ks) := hks
  have HROW : Hid (∀ (nq k : Nat), k ≤ L.length → ERow (w.drewN nq) (.slice ao k cap) (L.take k)) := fun nq k hk => (ERow.take hcap hcl k hk).keep (below_drewN (Below.refl _ _) nq)
  have HCNT : Hid (∀ (nq k : Nat), k ≤ L.length → Calls Try.prog 30 #[.slice ao k cap] (w.drewN nq) fun e w' => e = .returned (.int .i64 (cntE (L.take k))) ∧ w' = w.drewN nq) := fun nq k hk => cnt_any _ _ _ (HROW.out nq k hk) (by simp; omega)
  have HLEFT : Hid (∀ (nq k : Nat), k ≤ L.length → Calls Try.prog 28 #[.pointer (some ⟨g, 0, none⟩), .slice ao k cap, vk] (w.drewN nq) (RefOut base w G N (leftE ks (lastS (L.take k)) (L.take k) F).1)) := fun nq k hk =>
    (left_any (HR0.out.keepB (below_drewN (Below.refl _ _) nq)) _ _ (HROW.out nq k hk) (fun e he => (HOL.out e (List.mem_of_mem_take he)).keep (Fr.of_below (F := fun _ => False) (below_drewN (Below.refl _ _) nq)) (fun _ _ => id)) vk ks (HK0.out.keep (below_drewN (Below.refl _ _) nq)) (by simp; omega)).mono fun _ _ h => RefOut.of_drewN nq h
  clear h h0 hks
  have hLnil : L = [] ∨ ∃ g o, ao = some (⟨g, o, none⟩ : Addr) := hcl.imp id (fun ⟨g, o, h, _⟩ => ⟨g, o, h⟩)
  obtain ⟨C, hC⟩ : ∃ C : Int, ((cntE L : Nat) : Int) = C := ⟨_, rfl⟩
  rw [hC] at hW hm
  have hLtake : cntE (L.take L.length) = cntE L := by rw [List.take_length]
  clear hcl HOL HR0 HCL HK0 HROW
  go_enter Try.func19, Try.ntmps19
  go_wp2_with (go_at_call 29; refine hW.mono ?_; rintro e wx ⟨rfl, hwx⟩; rw [hwx]; clear hwx wx hW)
  all_goals
    go_loopw [7] (fun iv wr => ∃ k nq : Nat, k ≤ L.length ∧ iv = .int .i64 k ∧ wr = w.drewN nq ∧ (k = 0 ∨ cntE (L.take (k - 1)) < m)) (fun iv _ => L.length - (intOf iv).toNat)
    case atStart => exact ⟨0, 0, Nat.zero_le _, rfl, rfl, Or.inl rfl⟩
    case round =>
      obtain ⟨k, nq, hk, rfl, rfl, hlast⟩ := hrel
      have d2 : (w.drewN nq).cell? ⟨g, 2, none⟩ = some (.slice ao L.length cap) := cell_keep (below_drewN (Below.refl _ _) nq) c2
      clear c0 c1 c2 fz
      have hcut : ∀ (nr : Nat), m ≤ cntE (L.take k) → Calls Try.prog 28 #[.pointer (some ⟨g, 0, none⟩), .slice ao k cap, vk] (w.drewN nr) (fun e w' => ∃ tt, UpTo L m tt ∧ RefOut base w G N (leftE ks (lastS (L.take tt)) (L.take tt) F).1 e w') := fun nr hmk => (HLEFT.out nr k hk).mono fun e w' hx => ⟨k, upto_of hk hlast hmk, hx⟩
      have HCUT : Hid (∀ (nr : Nat), m ≤ cntE (L.take k) → Calls Try.prog 28 #[.pointer (some ⟨g, 0, none⟩), .slice ao k cap, vk] (w.drewN nr) (fun e w' => ∃ tt, UpTo L m tt ∧ RefOut base w G N (leftE ks (lastS (L.take tt)) (L.take tt) F).1 e w')) := hcut
      clear hcut HLEFT
      have hkc : k ≤ cap := by omega
      obtain ⟨ck, hck⟩ : ∃ ck : Nat, cntE (L.take k) = ck := ⟨_, rfl⟩
      have HCK := fun nr => HCNT.out nr k hk
      rw [hck] at HCK HCUT
      have HCC : Hid (∀ nr, Calls Try.prog 30 #[.slice ao k cap] (w.drewN nr) fun e w' => e = .returned (.int .i64 ck) ∧ w' = w.drewN nr) := HCK
      clear HCK HCNT
      by_cases h1 : k < L.length
      · rcases hLnil with h0 | ⟨g', o, rfl⟩
        · rw [h0] at h1; simp at h1
        have t1 : decide ((k : Int) < (L.length : Int)) = true := by simpa using h1
        by_cases h2 : ck < m
        · first
          | (exfalso; omega)
          | (try have t2 : decide ((ck : Int) < C) = true := by (simp; omega)
             try have t3 : decide ((ck : Int) < j) = true := by (simp; omega)
             go_wp2_with (go_at_call 30; refine (HCC.out nq).mono ?_; rintro e wx ⟨rfl, hwx⟩; rw [hwx]; clear hwx wx)
             go_roundw
             case rel => exact ⟨k + 1, nq, by omega, by go_num, rfl, Or.inr (by simp only [Nat.add_sub_cancel]; rw [hck]; exact h2)⟩
             case measure => simp [intOf]; omega)
        · have t4 : decide ((ck : Int) < 0) = false := by simp
          have hcu := HCUT.out nq (by omega)
          try have t2 : decide ((ck : Int) < C) = false := by (simp; omega)
          try have t3 : decide ((ck : Int) < j) = false := by (simp; omega)
          go_wp2_with (first
            | (go_at_call 30; refine (HCC.out nq).mono ?_; rintro e wx ⟨rfl, hwx⟩; rw [hwx]; clear hwx wx)
            | (go_at_call 28; refine hcu.mono ?_; rintro e wx ⟨tt, hu, c, rfl, h1, h2⟩))
          go_ret
          exact ⟨tt, hu, c, rfl, h1, h2⟩
      · obtain rfl : k = L.length := by omega
        have t1 : decide ((L.length : Int) < (L.length : Int)) = false := by simp
        have hcu := HCUT.out nq (by rw [hLtake] at hck; omega)
        rcases ao with _ | ao
        all_goals
          go_wp2_with (first
            | (go_at_call 28; refine hcu.mono ?_; rintro e wx ⟨tt, hu, c, rfl, h1, h2⟩))
          go_ret
          exact ⟨tt, hu, c, rfl, h1, h2⟩
end Go.Proofs.Ytggkclnnneoohaa
