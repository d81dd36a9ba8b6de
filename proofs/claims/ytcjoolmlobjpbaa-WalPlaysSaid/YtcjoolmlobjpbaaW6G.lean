/- Package wal: take. -/
import Derived.Test.YtcjoolmlobjpbaaW6E
import Derived.Test.YtcjoolmlobjpbaaW6F
namespace Go.Proofs.Ytcjoolmlobjpbaa
open Go.RowKit Go.Maps
set_option linter.unusedVariables false
set_option linter.unusedSimpArgs false

/-- What is still to be taken. -/
def still (D : DS) (held : List UInt8) (nx en : Nat) : List UInt8 := held ++ reg D.now nx (en - nx)
theorem reg_cons (g : Int → List UInt8) (first : Int) (n : Nat) : reg g first (n + 1) = g first ++ reg g (first + 1) n := by
  induction n with
  | zero => rw [reg_succ, reg_zero, reg_zero]; simp
  | succ n ih =>
    rw [reg_succ, ih, reg_succ, List.append_assoc]
    congr 3
    omega
theorem still_next (D : DS) (held : List UInt8) (nx en : Nat) (h : nx < en) : still D (held ++ D.now nx) (nx + 1) en = still D held nx en := by
  unfold still
  rw [show en - nx = (en - (nx + 1)) + 1 by omega, reg_cons, List.append_assoc]
  rfl
def cellN (w : World) (g : Nat) : Nat := match w.cell? ⟨g, 0, none⟩ with | some (.int _ x) => x.toNat | _ => 0
theorem cellN_of {w : World} {g nx : Nat} {t : TypeId} (h : w.heap[g]? = some (.cells #[.int .i64 nx] t (0, 0))) : cellN w g = nx := by
  unfold cellN; rw [cell_one h]; simp
/-- Where the taking stands. -/
structure TkMid (base : Nat) (w wr : World) (T T' : Nat → Prop) (gh gn ge gd : Nat) (pd sv : Value) (held : List UInt8) (nx en : Nat) (D : DS) (all : List UInt8) : Prop where
  t : Tk base wr T' gh gn ge gd pd sv held nx en
  a : still D held nx en = all
  f : Fr w wr T
  o : ∀ k, T' k → T k ∨ w.heap.size ≤ k
def TakeOut (base : Nat) (w : World) (T : Nat → Prop) (gh gn ge gd : Nat) (pd : Value) (en m : Nat) (D : DS) (all : List UInt8) (e : Ending) (w' : World) : Prop :=
  (m ≤ all.length ∧ ∃ (a : Addr) (cap : Nat) (sv : Value) (held : List UInt8) (nx : Nat) (T' : Nat → Prop), e = .returned (.slice (some a) m cap) ∧ m ≤ cap ∧ Bytes w' (.slice (some a) m cap) (all.take m) ∧ T' a.block ∧ TkMid base w w' T T' gh gn ge gd pd sv held nx en D (all.drop m)) ∨
  (all.length < m ∧ e = .returned (.slice none 0 0) ∧ Fr w w' T)
theorem tk_step {base : Nat} {w wr w1 w2 : World} {T T' : Nat → Prop} {gh gn ge gd : Nat} {pd sv sv' : Value} {held : List UInt8} {nx en : Nat} {D : DS} {all : List UInt8} (h : TkMid base w wr T T' gh gn ge gd pd sv held nx en D all) (hb : Below wr.heap.size wr w1) (hs : (D.now nx).length = 128) (ho : SlB base w2 sv' (held ++ D.now nx)) (hg : GrowB w1 sv w2 sv') (hlt : nx < en) (hl : held.length ≤ 900000) :
    ∃ T2, TkMid base w ((w2.setCell ⟨gh, 0, none⟩ sv').setCell ⟨gn, 0, none⟩ (.int .i64 (nx + 1 : Nat))) T T2 gh gn ge gd pd sv' (held ++ D.now nx) (nx + 1) en D all := by
  have h1 := h.t.keep (Fr.of_below (F := fun _ => False) hb) (fun _ _ => id)
  obtain ⟨h2, f2⟩ := h1.newHeld hg ho (by rw [List.length_append, hs]; omega)
  obtain ⟨h3, f3⟩ := h2.newNext (nx' := nx + 1) (by omega)
  have f4 : Fr wr _ T' := ((Fr.of_below (F := T') hb).trans f2 (fun i hi => Or.inl hi)).trans f3 (fun i hi => by
    rcases hi with hi | hi
    · exact Or.inl hi
    · right; have := hb.size; omega)
  refine ⟨_, h3, by rw [still_next D held nx en hlt]; exact h.a, h.f.trans f4 h.o, fun k hk => ?_⟩
  rcases hk with hk | hk
  · exact h.o k hk
  · right; have := h.f.size; have := hb.size; omega
theorem SlB.drop {base : Nat} {w : World} {g off cap m : Nat} {xs : List UInt8} {off' : Nat} (h : SlB base w (.slice (some ⟨g, off, none⟩) xs.length cap) xs) (hm : m ≤ xs.length) (ho : off' = off + m ∨ cap = m) : SlB base w (.slice (some ⟨g, off', none⟩) (xs.length - m) (cap - m)) (xs.drop m) := by
  rcases h with ⟨h, _⟩ | ⟨g2, off2, cap2, cur, hv, hb, hg, hc, hs, ht⟩
  · cases h
  · cases hv
    refine Or.inr ⟨g, off', cap - m, cur, by rw [List.length_drop], hb, hg, by rw [List.length_drop]; omega, ?_, ?_⟩
    · rcases ho with rfl | h
      · rcases hs with h | h
        · by_cases e : cap = m
          · right; omega
          · left; omega
        · right; omega
      · right; omega
    · rcases ho with rfl | h
      · rw [List.length_drop, ← List.drop_drop, List.map_drop, ← ht, List.drop_take]
      · have : xs.length - m = 0 := by omega
        rw [List.length_drop, this, List.take_zero, List.drop_of_length_le (by omega)]; rfl
theorem fr_frozen {w : World} {g : Nat} {v : Value} {t : TypeId} (h : w.heap[g]? = some (.cells #[v] t (0, 0))) : w.frozen? ⟨g, 0, none⟩ = false := frozen_row h 0
set_option maxRecDepth 10000 in
set_option maxHeartbeats 4000000 in
theorem take_any {base : Nat} {w : World} {F T : Nat → Prop} {p : Value} {n : Nat} {D : DS} {gh gn ge gd : Nat} {sv : Value} {held : List UInt8} {nx en : Nat} (hD : DiskAt base w F p n D) (hT : Tk base w T gh gn ge gd p sv held nx en) (hd : ∀ k, F k → ¬ T k) (hen : en ≤ D.size) (hls : ∀ i, (D.now i).length = 128) (m : Nat) (hm1 : 1 ≤ m) (hm2 : m ≤ 10000) :
    Calls Try.prog 45 #[.int .i64 m, .pointer (some ⟨gh, 0, none⟩), .pointer (some ⟨gn, 0, none⟩), .pointer (some ⟨ge, 0, none⟩), .pointer (some ⟨gd, 0, none⟩)] w (TakeOut base w T gh gn ge gd p en m D (still D held nx en)) := by
  have hbase : base ≤ w.heap.size := by have := hT.lo gh hT.th; omega
  obtain ⟨dg, _, _, _, rfl, hDI⟩ := id hD
  have hz := hDI.sz
  have HD : Hid (DiskAt base w F (.pointer (some ⟨dg, 0, none⟩)) n D) := hD
  have HT : Hid (TkMid base w w T T gh gn ge gd (.pointer (some ⟨dg, 0, none⟩)) sv held nx en D (still D held nx en)) := ⟨hT, rfl, Fr.refl _ _, fun k hk => Or.inl hk⟩
  have hhl := hT.hlen
  have HH : Hid (held.length ≤ 900000 ∨ m ≤ held.length) := by
    by_cases h : held.length ≤ 900000
    · exact Or.inl h
    · exact Or.inr (by omega)
  have HLS : Hid (∀ i, (D.now i).length = 128) := hls
  have HAL : Hid (∀ k, F k → ¬ T k) := hd
  clear hD hT hDI hls hd
  generalize still D held nx en = all at *
  go_enter Try.func45, Try.ntmps45
  go_wp2
  go_loopw [7] (fun _ wr => ∃ (T' : Nat → Prop) (sv' : Value) (held' : List UInt8) (nx' : Nat), Hid (held'.length ≤ 900000 ∨ m ≤ held'.length) ∧ Hid (TkMid base w wr T T' gh gn ge gd (.pointer (some ⟨dg, 0, none⟩)) sv' held' nx' en D all)) (fun _ wr => en - cellN wr gn)
  case atStart => exact ⟨T, sv, held, nx, HH, HT⟩
  case round =>
    obtain ⟨T', sv', held', nx', HH', HM⟩ := hrel
    have hM := HM.out
    have c1 := cell_one hM.t.hh
    have c2 := cell_one hM.t.hn
    have c3 := cell_one hM.t.he
    have c4 := cell_one hM.t.hd
    obtain ⟨ao, cap, hv, hcap⟩ := hM.t.sl.form
    subst hv
    have hle := hM.t.nxen
    have hhl' := hM.t.hlen
    have HN : Hid (cellN wr gn = nx') := cellN_of hM.t.hn
    have hDr : Hid (DiskAt base wr F (.pointer (some ⟨dg, 0, none⟩)) n D) := HD.out.keep hM.f HAL.out
    have hbr : base ≤ wr.heap.size := Nat.le_trans hbase hM.f.size
    clear hM
    by_cases h1 : held'.length < m
    · have t1 : decide ((held'.length : Int) < (m : Int)) = true := by simpa using h1
      by_cases h2 : nx' < en
      · have t2 : decide ((nx' : Int) < (en : Int)) = true := by simpa using h2
        go_wp2_with fail
        refine (read_any hDr.out nx' (by omega)).mono ?_
        rintro e w1 ⟨rb, hrb, rfl, hR, hb1⟩
        have hM := HM.out
        have h1' := hM.t.keep (Fr.of_below (F := fun _ => False) hb1) (fun _ _ => id)
        have d1 := cell_one h1'.hh
        have d2 := cell_one h1'.hn
        have f2 := fr_frozen h1'.hn
        have hbz : base ≤ w1.heap.size := Nat.le_trans hbr hb1.size
        have hlenS := HLS.out nx'
        have HRc : Hid (∀ j (hj : j < (D.now nx').length), w1.cell? ((⟨rb, 0, none⟩ : Addr).add j) = some (bv (D.now nx')[j])) := fun j hj => hR.cell j hj
        clear hM c1 c2 c3 c4 t1 t2
        go_wp2_with (first | (at_builtin; refine wp_appSl _ rfl _ _ rfl base _ held' rfl h1'.sl ⟨rb, 0, none⟩ 128 128 (D.now nx') rfl HRc.out hlenS (by decide) (by omega) hbz ?_))
        intro v2 w2 hs2 hg2
        obtain ⟨T2, hM2⟩ := tk_step HM.out hb1 hlenS hs2 hg2 h2 (by rcases HH'.out with h | h <;> omega)
        obtain ⟨ao2, cap2, hv2, _⟩ := hs2.form
        rw [List.length_append, hlenS] at hv2
        subst hv2
        have HC : Hid (cellN _ gn = nx' + 1) := cellN_of hM2.t.hn
        rw [show ((nx' + 1 : Nat) : Int) = (nx' : Int) + 1 by omega] at hM2 HC
        have e1 : w2.heap[gh]? = _ := (hg2.grown.block gh (h1'.lo gh h1'.th).2 (fun e => h1'.distinct.2.2.2.2.2.1 e.symm)).trans h1'.hh
        have e2 : w2.heap[gn]? = _ := (hg2.grown.block gn (h1'.lo gn h1'.tn).2 (fun e => h1'.distinct.2.2.2.2.2.2.1 e.symm)).trans h1'.hn
        have k1 := cell_one e1
        have k2 := cell_one e2
        have k3 := fr_frozen e1
        have k4 := fr_frozen e2
        have hne := h1'.distinct.1
        have HM2 : Hid (TkMid _ _ _ _ _ _ _ _ _ _ _ _ _ _ _ _) := hM2
        clear hM2 hs2 hg2 h1' d1 d2 f2 e1 e2 hR
        go_wp2
        refine ⟨⟨T2, _, held' ++ D.now nx', nx' + 1, Or.inl (by rw [List.length_append, hlenS]; omega), HM2.out⟩, ?_⟩
        rw [HC.out, HN.out]
        omega
      · have t2 : decide ((nx' : Int) < (en : Int)) = false := by simpa using h2
        have HO : Hid (all.length < m ∧ Fr w wr T) := by
          refine ⟨?_, HM.out.f⟩
          rw [← HM.out.a]
          unfold still
          rw [show en - nx' = 0 by omega, reg_zero, List.append_nil]
          exact h1
        go_wp2
        go_ret
        exact Or.inr ⟨HO.out.1, rfl, HO.out.2⟩
    · have t1 : decide ((held'.length : Int) < (m : Int)) = false := by simpa using h1
      rcases ao with _ | a
      · exfalso
        have := HM.out.t.sl.bytes.none_len
        omega
      · have HS : ∃ g off, a = ⟨g, off, none⟩ := by
          rcases HM.out.t.sl with ⟨h, _⟩ | ⟨g, off, cap', cur, hv, _⟩
          · cases h
          · cases hv; exact ⟨g, off, rfl⟩
        obtain ⟨g, off, rfl⟩ := HS
        have k3 := fr_frozen HM.out.t.hh
        have hfin : ∀ off', (off' = off + m ∨ cap = m) → TakeOut base w T gh gn ge gd (.pointer (some ⟨dg, 0, none⟩)) en m D all (.returned (.slice (some ⟨g, off, none⟩) m cap)) (wr.setCell ⟨gh, 0, none⟩ (.slice (some ⟨g, off', none⟩) (held'.length - m) (cap - m))) := by
          intro off' ho
          have hM := HM.out
          obtain ⟨hT2, hF2⟩ := hM.t.newHeld (sv' := .slice (some ⟨g, off', none⟩) (held'.length - m) (cap - m)) ⟨World.grownBy.refl _ _, Or.inl rfl⟩ (hM.t.sl.drop (by omega) ho) (by rw [List.length_drop]; omega)
          have hall : all = held' ++ reg D.now nx' (en - nx') := hM.a.symm
          have htk : all.take m = held'.take m := by rw [hall, List.take_append_of_le_length (by omega)]
          refine Or.inl ⟨by rw [hall, List.length_append]; omega, ⟨g, off, none⟩, cap, _, held'.drop m, nx', _, rfl, by omega, ?_, Or.inl (hM.t.ts g rfl), hT2, ?_, hM.f.trans hF2 hM.o, fun k hk => ?_⟩
          · rw [htk]
            have hbk : (wr.setCell ⟨gh, 0, none⟩ (.slice (some ⟨g, off', none⟩) (held'.length - m) (cap - m))).heap[g]? = wr.heap[g]? := (fr_set wr gh 0 _).block g (hM.t.lo g (hM.t.ts g rfl)).2 (fun e => hM.t.distinct.2.2.2.2.2.1 (by rw [← e]; rfl))
            have hby := (hM.t.sl.of_block (w' := wr.setCell ⟨gh, 0, none⟩ (.slice (some ⟨g, off', none⟩) (held'.length - m) (cap - m))) (fun k hk => by cases hk; exact hbk)).bytes
            have := hby.part (a' := ⟨g, off, none⟩) (lo := 0) (hi := m) rfl (by omega) (by omega) (Or.inl (by simp [Addr.add]))
            simpa using this
          · unfold still
            rw [hall, List.drop_append_of_le_length (by omega)]
          · rcases hk with hk | hk
            · exact hM.o k hk
            · right; have := hM.f.size; omega
        have HF : Hid (∀ off', (off' = off + m ∨ cap = m) → TakeOut base w T gh gn ge gd (.pointer (some ⟨dg, 0, none⟩)) en m D all (.returned (.slice (some ⟨g, off, none⟩) m cap)) (wr.setCell ⟨gh, 0, none⟩ (.slice (some ⟨g, off', none⟩) (held'.length - m) (cap - m)))) := hfin
        clear hfin
        by_cases hcm : cap = m
        · obtain rfl : held'.length = m := by omega
          subst hcm
          have hF := HF.out off (Or.inr rfl)
          simp only [Nat.sub_self] at hF
          go_wp2
          go_ret
          exact hF
        · have hcm' : ¬ ((cap : Int) = (m : Int)) := by omega
          go_wp2
          go_ret
          exact HF.out _ (Or.inl rfl)
end Go.Proofs.Ytcjoolmlobjpbaa
