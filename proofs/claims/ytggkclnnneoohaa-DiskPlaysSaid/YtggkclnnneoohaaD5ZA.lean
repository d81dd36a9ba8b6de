/- The law's 'same': both disks are held against one another. -/
import Derived.Test.YtggkclnnneoohaaD5Z
namespace Go.Proofs.Ytggkclnnneoohaa
open Go.RowKit Go.Maps
set_option linter.unusedVariables false
set_option linter.unusedSimpArgs false

theorem pending_quiet {base : Nat} {F : Nat → Prop} {p : Value} {n : Nat} {D : DS} {w : World} (h : DiskAt base w F p n D) :
    Calls Try.prog 22 #[p] w fun e w' => e = .returned (.int .i64 ((D.ws.length : Int) - D.safe)) ∧ ∃ n, w' = w.drewN n := by
  obtain ⟨g, b1, b2, v, rfl, h⟩ := h
  obtain ⟨c0, c1, c2, c3, c4, fz⟩ := cells5 h.hg
  obtain ⟨ao, cap, rfl, _⟩ := h.row.form
  have hc := h.cnt
  have hs := h.sf
  clear h
  generalize D.ws.length = L at *
  generalize D.safe = S at *
  go_enter Try.func22, Try.ntmps22
  go_wp2
  go_quiet (fail)
  go_wp2
  go_ret
  exact ⟨by first | rfl | (congr 2; omega), _, rfl⟩
/-- Both disks, apart from one another. -/
structure Two5 (base : Nat) (w : World) (X G : Nat → Prop) (p q : Value) (n : Nat) (D : DS) (N : Int) (F L : List EV) : Prop where
  d : DiskAt base w X p n D
  r : RefAt base w G q N F L
  a : ∀ k, X k → ¬ G k
  s : Same5 D N F L
theorem Two5.keep {base : Nat} {w w' : World} {X G : Nat → Prop} {p q : Value} {n : Nat} {D : DS} {N : Int} {F L : List EV} (h : Two5 base w X G p q n D N F L) (hb : Below w.heap.size w w') : Two5 base w' X G p q n D N F L := ⟨h.d.keepB hb, h.r.keepB hb, h.a, h.s⟩
theorem now_len5 {base : Nat} {F : Nat → Prop} {p : Value} {n : Nat} {D : DS} {w : World} (h : DiskAt base w F p n D) : ∀ i, (D.now i).length = 128 := by
  obtain ⟨g, b1, b2, v, rfl, h⟩ := h
  exact h.m2.len
set_option maxHeartbeats 2000000 in
theorem same_law {base : Nat} {w : World} {X G : Nat → Prop} {p q : Value} {n : Nat} {D : DS} {N : Int} {F L : List EV} (h : Two5 base w X G p q n D N F L) :
    Calls Try.prog 20 #[p, q] w fun e w' => e = .returned (.bool true) ∧ Below w.heap.size w w' := by
  have HT : Hid (Two5 base w X G p q n D N F L) := h
  obtain ⟨gq, vF, vL, hq, hr⟩ := h.r
  have hN : 0 ≤ N ∧ N ≤ 4096 := by
    obtain ⟨g, b1, b2, v, rfl, hd⟩ := h.d
    rw [← h.s.size]; exact hd.sz
  obtain ⟨c0, c1, c2, fz⟩ := cells3 hr.hg
  obtain ⟨gp, b1, b2, v, hp, hd⟩ := h.d
  subst hq hp
  clear h hr hd c1 c2 fz
  go_enter Try.func20, Try.ntmps20
  go_wp2
  go_loopw [5] (fun iv wr => ∃ k : Nat, (k : Int) ≤ N ∧ k ≤ 40 ∧ iv = .int .i64 k ∧ Below w.heap.size w wr) (fun iv _ => 40 - (intOf iv).toNat)
  case atStart => exact ⟨0, hN.1, Nat.zero_le _, rfl, Below.refl _ _⟩
  case round =>
    obtain ⟨k, hk, hk40, rfl, hbr⟩ := hrel
    have HTr : Hid (Two5 base wr X G (.pointer (some ⟨gp, 0, none⟩)) (.pointer (some ⟨gq, 0, none⟩)) n D N F L) := HT.out.keep hbr
    have d0 : wr.cell? ⟨gq, 0, none⟩ = some (.int .i64 N) := cell_keep hbr c0
    by_cases h1 : (k : Int) < N ∧ k < 40
    · have t1 : decide ((k : Int) < N) = true := by simpa using h1.1
      have t2 : decide ((k : Int) < 40) = true := by simp; omega
      have hRd := read_any HTr.out.d (k : Int) (by rw [HTr.out.s.size]; omega)
      go_wp2_with fail
      refine hRd.mono ?_
      rintro e w1 ⟨k1, hk1, rfl, hr1, hb1⟩
      have hRr := refRead_any (HTr.out.r.keepB hb1) (k : Int) ⟨by omega, h1.1⟩
      clear hRd
      go_wp2_with fail
      refine hRr.mono ?_
      rintro e w2 ⟨k2, rfl, hr2, hb2⟩
      have hnl := now_len5 HTr.out.d (k : Int)
      have hq2 := HTr.out.s.now (k : Int)
      rw [← hq2] at hr2
      clear hRr hq2
      have hsm := same_any (sl k1) (sl k2) _ _ w2 ((bytes_row hr1 hnl).keep hb2) (bytes_row hr2 hnl)
      rw [decide_eq_true rfl] at hsm
      go_wp2_with fail
      refine hsm.mono ?_
      rintro e w3 ⟨rfl, hw3⟩
      rw [hw3]
      clear hw3 hsm hr1 hr2
      have hb3 : Below w.heap.size w w2 := hbr.trans ((hb1.trans (hb2.mono hb1.size)).mono hbr.size)
      go_wp2
      go_roundw
      case rel => exact ⟨k + 1, by omega, by omega, by go_num, hb3⟩
      case measure => simp [intOf]; omega
    · have HP1 : Hid (∀ nq, Calls Try.prog 22 #[.pointer (some ⟨gp, 0, none⟩)] (wr.drewN nq) fun e w' => e = .returned (.int .i64 (cntE (L.drop (lastS L)) : Nat)) ∧ ∃ m, w' = (wr.drewN nq).drewN m) := fun nq => by
        have := pending_quiet (HTr.out.d.keepB (below_drewN (Below.refl _ _) nq))
        rw [HTr.out.s.ws, HTr.out.s.safe, pending_eq] at this
        exact this
      have HP2 : Hid (∀ nq, Calls Try.prog 31 #[.pointer (some ⟨gq, 0, none⟩)] (wr.drewN nq) fun e w' => e = .returned (.int .i64 (cntE (L.drop (lastS L)) : Nat)) ∧ w' = wr.drewN nq) := fun nq => refPending_any (HTr.out.r.keepB (below_drewN (Below.refl _ _) nq))
      have HW1 : Hid (∀ nq, Calls Try.prog 24 #[.pointer (some ⟨gp, 0, none⟩)] (wr.drewN nq) fun e w' => e = .returned (.int .i64 (cntE L : Nat)) ∧ w' = wr.drewN nq) := fun nq => by
        have := writes_any (HTr.out.d.keepB (below_drewN (Below.refl _ _) nq))
        rw [HTr.out.s.ws, stE_len'] at this
        exact this
      have HW2 : Hid (∀ nq, Calls Try.prog 29 #[.pointer (some ⟨gq, 0, none⟩)] (wr.drewN nq) fun e w' => e = .returned (.int .i64 (cntE L : Nat)) ∧ w' = wr.drewN nq) := fun nq => refWrites_any (HTr.out.r.keepB (below_drewN (Below.refl _ _) nq))
      have HS1 : Hid (∀ nq, Calls Try.prog 23 #[.pointer (some ⟨gp, 0, none⟩)] (wr.drewN nq) fun e w' => e = .returned (.int .i64 N) ∧ w' = wr.drewN nq) := fun nq => by
        have := size_any (HTr.out.d.keepB (below_drewN (Below.refl _ _) nq))
        rw [HTr.out.s.size] at this
        exact this
      have hend : (decide ((k : Int) < N) = false) ∨ (decide ((k : Int) < N) = true ∧ decide ((k : Int) < 40) = false) := by
        by_cases h2 : (k : Int) < N
        · exact Or.inr ⟨by simpa using h2, by simp; omega⟩
        · exact Or.inl (by simpa using h2)
      generalize cntE (L.drop (lastS L)) = a1 at *
      generalize cntE L = a2 at *
      clear HTr HT c0
      rcases hend with t1 | ⟨t1, t2⟩
      all_goals
        go_wp2_with fail
        go_quiet ((first
          | (go_at_call 22; exact Calls.quiet_of (HP1.out _))
          | (go_at_call 31; exact Calls.quiet_of_same (HP2.out _))
          | (go_at_call 24; exact Calls.quiet_of_same (HW1.out _))
          | (go_at_call 29; exact Calls.quiet_of_same (HW2.out _))
          | (go_at_call 23; exact Calls.quiet_of_same (HS1.out _))))
        go_wp2
        go_ret
        exact ⟨rfl, below_drewN hbr _⟩
end Go.Proofs.Ytggkclnnneoohaa
