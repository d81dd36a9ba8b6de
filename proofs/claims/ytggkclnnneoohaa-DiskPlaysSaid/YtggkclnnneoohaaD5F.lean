/- Package disk: Cut, CutAt; no disk. -/
import Derived.Test.YtggkclnnneoohaaD5E
namespace Go.Proofs.Ytggkclnnneoohaa
open Go.RowKit Go.Maps
set_option linter.unusedVariables false
set_option linter.unusedSimpArgs false

/-- What a cut leaves. -/
def DS.left (D : DS) (done safe : Nat) (ks : List Bool) : DS := ⟨D.size, cutF ks safe D.first (D.ws.take done), cutF ks safe D.first (D.ws.take done), [], 0⟩
/-- A new disk, and nothing else has turned. -/
def CutOut (w : World) (n : Nat) (D : DS) (e : Ending) (w' : World) : Prop := ∃ (c : Nat) (F' : Nat → Prop), e = .returned (.pointer (some ⟨c, 0, none⟩)) ∧ DiskAt w.heap.size w' F' (.pointer (some ⟨c, 0, none⟩)) n D ∧ Below w.heap.size w w'
theorem cut_out {base : Nat} {F : Nat → Prop} {p : Value} {n : Nat} {D : DS} {w : World} (h : DiskAt base w F p n D) (done safe : Nat) (hd : done ≤ D.ws.length) (hs : safe ≤ 1000000) (vk : Value) (ks : List Bool) (hk0 : Bools w vk ks) :
    Calls Try.prog 27 #[p, .int .i64 done, .int .i64 safe, vk] w (CutOut w (n + D.ws.length) (D.left done safe ks)) := cut_any h done safe hd hs vk ks hk0
theorem CutOut.of_drew {w : World} {n : Nat} {D : DS} {e : Ending} {w' : World} (h : CutOut w.drew n D e w') : CutOut w n D e w' := by
  obtain ⟨c, F', he, hD, hb⟩ := h
  exact ⟨c, F', he, hD, ⟨hb.os, hb.tape, hb.output, hb.size, hb.block⟩⟩
set_option maxHeartbeats 1000000 in
theorem Cut_any {base : Nat} {F : Nat → Prop} {p : Value} {n : Nat} {D : DS} {w : World} (h : DiskAt base w F p n D) (vk : Value) (ks : List Bool) (hk0 : Bools w vk ks) :
    Calls Try.prog 16 #[p, vk] w (CutOut w (n + D.ws.length) (D.left D.ws.length D.safe ks)) := by
  have h0 := h
  obtain ⟨g, b1, b2, v, rfl, h⟩ := h
  obtain ⟨c0, c1, c2, c3, c4, fz⟩ := cells5 h.hg
  obtain ⟨ao, cap, hv, _⟩ := h.row.form
  subst hv
  have hc := h.cnt
  have hs := h.sf
  have HK : Hid (Calls Try.prog 27 #[.pointer (some ⟨g, 0, none⟩), .int .i64 D.ws.length, .int .i64 D.safe, vk] w.drew (CutOut w (n + D.ws.length) (D.left D.ws.length D.safe ks))) :=
    (cut_out (h0.keepB (Below.refl _ _).drew) D.ws.length D.safe (Nat.le_refl _) (by omega) vk ks (hk0.keep (Below.refl _ _).drew)).mono fun _ _ h => h.of_drew
  clear h h0
  generalize D.ws.length = L at *
  generalize D.safe = S at *
  go_enter Try.func16, Try.ntmps16
  go_wp2
  go_region_held_law (fun w' => w'.cell? ⟨g, 3, none⟩ = some (.slice ao L cap) ∧ w'.cell? ⟨g, 4, none⟩ = some (.int .i64 S)) (first | exact ⟨c3, c4⟩ | exact ⟨cell_keep h2 c3, cell_keep h2 c4⟩) (first | (go_at_call 27; refine HK.out.mono ?_; rintro e w1 ⟨c, F', rfl, h1, h2⟩))
  go_wp2
  go_ret
  exact ⟨c, F', rfl, h1, h2⟩

/-- How many writes were safe behind the m-th. -/
def DS.safeAt (D : DS) (m : Nat) : Nat := if h : 0 < m ∧ m ≤ D.ws.length then (D.ws[m - 1]'(by omega)).safe.toNat else 0
theorem range_safe {w : World} {g o : Nat} {x : W3} (hx : x.sec.length = 128) (h : w.rangeAt g o (cellsW x)) : w.cell? ⟨g, o + 129, none⟩ = some (.int .i64 x.safe) := by
  refine h 129 _ ?_
  simp [cellsW, hx]
set_option maxHeartbeats 1000000 in
theorem CutAt_any {base : Nat} {F : Nat → Prop} {p : Value} {n : Nat} {D : DS} {w : World} (h : DiskAt base w F p n D) (j : Int) (m : Nat) (hm : (m : Int) = min (max j 0) D.ws.length) (vk : Value) (ks : List Bool) (hk0 : Bools w vk ks) :
    Calls Try.prog 18 #[p, .int .i64 j, vk] w (CutOut w (n + D.ws.length) (D.left m (D.safeAt m) ks)) := by
  have h0 := h
  obtain ⟨g, b1, b2, v, rfl, h⟩ := h
  obtain ⟨c0, c1, c2, c3, c4, fz⟩ := cells5 h.hg
  obtain ⟨ao, cap, hv, hcap⟩ := h.row.form
  subst hv
  have hc := h.cnt
  have hml : m ≤ D.ws.length := by omega
  have hrow := own_range (fun x hx => cellsW_len (h.oks x hx).len) h.row
  have e1 : min (max j 0) (D.ws.length : Int) = (m : Int) := hm.symm
  by_cases h1 : m = 0
  · subst h1
    have hs0 : D.safeAt 0 = 0 := by simp [DS.safeAt]
    rw [hs0]
    have HK := cut_out h0 0 0 (Nat.zero_le _) (by omega) vk ks hk0
    clear h h0 hrow c4 c0 c1 c2 fz
    generalize D.ws.length = L at *
    go_enter Try.func18, Try.ntmps18
    go_wp2_with (first | (go_at_call 27; refine HK.mono ?_; rintro e w1 ⟨c, F', rfl, h1, h2⟩))
    all_goals first
      | (go_ret; exact ⟨c, F', rfl, h1, h2⟩)
      | (exfalso; omega)
  · rcases hrow with ⟨hv, hnil⟩ | ⟨gv, cap', hv, hc', hbg, hgvl, hrange⟩
    · rw [hnil] at hml; simp at hml; omega
    · have hao : ao = some ⟨gv, 0, none⟩ ∧ cap = cap' := by simpa using hv
      obtain ⟨rfl, rfl⟩ := hao
      have hm1 : m - 1 < D.ws.length := by omega
      have hws := h.wsafe (m - 1) hm1
      have hsf : D.safeAt m = (D.ws[m - 1]'hm1).safe.toNat := by simp only [DS.safeAt]; rw [dif_pos (by omega)]
      have hcell := range_safe (h.oks _ (List.getElem_mem hm1)).len (hrange (m - 1) hm1)
      have HK := cut_out h0 m (D.safeAt m) hml (by omega) vk ks hk0
      rw [hsf] at HK ⊢
      clear hsf
      generalize (D.ws[m - 1]'hm1).safe = sf at *
      obtain ⟨s, rfl⟩ : ∃ s : Nat, sf = s := ⟨sf.toNat, by omega⟩
      simp only [Int.toNat_natCast] at HK ⊢
      obtain ⟨m1, rfl⟩ : ∃ m1, m = m1 + 1 := ⟨m - 1, by omega⟩
      have e2 : ((m1 + 1 : Nat) : Int) - 1 = (m1 : Int) := by omega
      simp only [Nat.add_sub_cancel] at hcell
      clear h h0 hrange hm hws hv hc'
      generalize D.ws.length = L at *
      have hcell' : w.cell? ⟨gv, m1 * 130 + 129, none⟩ = some (.int .i64 s) := hcell
      clear hcell
      by_cases hj : j ≤ (L : Int)
      · obtain rfl : j = ((m1 + 1 : Nat) : Int) := by omega
        clear e1
        go_enter Try.func18, Try.ntmps18
        go_wp2_with (first | (go_at_call 27; refine HK.mono ?_; rintro e w1 ⟨c, F', rfl, h1, h2⟩))
        all_goals first
          | (go_ret; exact ⟨c, F', rfl, h1, h2⟩)
          | (exfalso; omega)
      · obtain rfl : L = m1 + 1 := by omega
        clear e1
        go_enter Try.func18, Try.ntmps18
        go_wp2_with (first | (go_at_call 27; refine HK.mono ?_; rintro e w1 ⟨c, F', rfl, h1, h2⟩))
        all_goals first
          | (go_ret; exact ⟨c, F', rfl, h1, h2⟩)
          | (exfalso; omega)
end Go.Proofs.Ytggkclnnneoohaa
