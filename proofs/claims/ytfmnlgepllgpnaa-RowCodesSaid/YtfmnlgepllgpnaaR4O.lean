/- The walk of the document's own Decode at every list of bytes. -/
import Derived.Test.YtfmnlgepllgpnaaR4N
namespace Go.Proofs.Ytfmnlgepllgpnaa
open Go.RowKit
set_option linter.unusedVariables false

def VOk (l : List V4) : Prop := ∀ x ∈ l, x.2.2.1.length ≤ 70000 ∧ In64 x
theorem vok_snoc {l : List V4} {x : V4} (h : VOk l) (hx : x.2.2.1.length ≤ 70000 ∧ In64 x) : VOk (l ++ [x]) := fun y hy => by
  rcases List.mem_append.1 hy with hy | hy
  · exact h y hy
  · rw [List.mem_singleton.1 hy]; exact hx
theorem bytes_slice {w : World} {v : Value} {xs : List UInt8} (h : Bytes w v xs) : ∃ vo vc, v = .slice vo xs.length vc := by
  rcases h with ⟨h1, h2⟩ | ⟨b, c, h1, _⟩
  · exact ⟨none, 0, by rw [h1, h2]; rfl⟩
  · exact ⟨_, _, h1⟩
theorem bytes_cells {w : World} {vo : Option Addr} {vc n : Nat} {xs : List UInt8} (h : Bytes w (.slice vo n vc) xs) (hx : 0 < xs.length) : ∃ a, vo = some a ∧ xs.length ≤ vc ∧ ∀ j (hj : j < xs.length), w.cell? (a.add j) = some (.int .u8 (xs[j].toNat : Int)) := by
  rcases h with ⟨_, h⟩ | ⟨a, c, hv, hc, h⟩
  · subst h; simp at hx
  · cases hv
    exact ⟨a, rfl, hc, h⟩
theorem wrap_byte (c : UInt8) : wrap64 (c.toNat : Int) = (c.toNat : Int) := by
  have := c.toNat_lt
  unfold wrap64
  omega
theorem held_two {wr w' : World} {a b : Addr} {x y : Value} (c1 : wr.cell? a = some x) (c2 : wr.cell? b = some y) (h : Below wr.heap.size wr w') : Below wr.heap.size wr w' ∧ w'.cell? a = some x ∧ w'.cell? b = some y :=
  ⟨h, (h.cell (p := a) (World.block_lt_of_cell? wr _ c1)).trans c1, (h.cell (p := b) (World.block_lt_of_cell? wr _ c2)).trans c2⟩
theorem add_zero (a : Addr) : a.add 0 = a := by simp [Addr.add]

set_option maxHeartbeats 8000000 in
set_option maxRecDepth 100000 in
theorem refDecode_any (v : Value) (bs : List UInt8) (w : World) (hb : Bytes w v bs) (hl : bs.length ≤ 140737488355328) :
    Calls Try.prog 12 #[v] w (Told w bs) := by
  obtain ⟨vo, vc, rfl⟩ := bytes_slice hb
  go_enter Try.func12, Try.ntmps12
  go_wp2
  go_loopw [4, 5] (fun u i wr => ∃ (l : List V4) (p : Nat), i = .int .i64 p ∧ l.length ≤ 13 ∧ 1 ≤ p ∧ p ≤ 140737488455328 ∧ Hid (St bs l p) ∧ VOk l ∧ OwnR w.heap.size wr u l ∧ Below w.heap.size w wr) (fun _ i _ => bs.length - (intOf i).toNat)
  case atStart => exact ⟨[], 1, rfl, Nat.zero_le _, Nat.le_refl _, by omega, st_start bs, (fun x hx => by cases hx), World.ownsRow_nil _ _ _ _, Below.refl _ _⟩
  case round =>
    obtain ⟨l, p, rfl, hl13, hp1, hpb, HST, hvok, hown, hnx⟩ := hrel
    have hv : Bytes wr (.slice vo bs.length vc) bs := hb.keep hnx
    obtain ⟨ro, rc_, rfl, hrc⟩ := hown.row.cap
    by_cases hp : p < bs.length
    · obtain ⟨a, rfl, hvc, hB⟩ := bytes_cells hv (by omega)
      have c0 : wr.cell? a = some (.int .u8 (bs[0].toNat : Int)) := by
        have := hB 0 (by omega)
        rwa [add_zero] at this
      have cp := hB p hp
      have HBy : Hid (∀ j (hj : j < bs.length), wr.cell? (a.add j) = some (.int .u8 (bs[j].toNat : Int))) := hB
      clear hB
      obtain ⟨b0, t0, hbs⟩ : ∃ b0 t0, bs = b0 :: t0 := by
        cases bs with
        | nil => simp at hp
        | cons b0 t0 => exact ⟨b0, t0, rfl⟩
      have hb0 : bs[0] = b0 := by subst hbs; rfl
      rw [hb0] at c0
      have hw0 := wrap_byte b0
      have HBS : Hid (bs = b0 :: t0) := hbs
      clear hbs hb0
      by_cases hlb : l.length < b0.toNat
      · by_cases hl12 : l.length ≤ 12
        · obtain ⟨c, hcp⟩ : ∃ c, bs[p] = c := ⟨_, rfl⟩
          rw [hcp] at cp
          have HCP : Hid (bs[p] = c) := hcp
          clear hcp
          have hbsz := hnx.size
          cases h0 : ((c.toNat : Int) == 0)
          · cases h1 : ((c.toNat : Int) == 1)
            · cases h2 : ((c.toNat : Int) == 2)
              · cases h3 : ((c.toNat : Int) == 3)
                · cases h4 : ((c.toNat : Int) == 4)
                  · have HF : Hid (NoForm bs) := by
                      have n0 := not_byte (n := 0) h0
                      have n1 := not_byte (n := 1) h1
                      have n2 := not_byte (n := 2) h2
                      have n3 := not_byte (n := 3) h3
                      have n4 := not_byte (n := 4) h4
                      exact st_fail HST.out HBS.out hlb (noV_at hp (by rw [HCP.out]; omega))
                    go_wp2
                    exact bodyPost_ret (v := .tuple #[.slice none 0 0, .int .i64 41]) (by simp [results, Try.results12, go_sem]) rfl ⟨Or.inr ⟨rfl, HF.out⟩, hnx⟩
                  · have HS : Hid (St bs (l ++ [(3, 0, (⟨#[]⟩ : ByteArray).data.toList, true)]) (p + 1)) := st_step HST.out HBS.out hlb (next_bool true hp (by rw [HCP.out]; exact one_byte (n := 4) (by decide) h4))
                    go_wp2_with (at_builtin; refine wp_appR _ rfl _ _ rfl w.heap.size _ l rfl (hown.alloc _) wr.heap.size 1 1 [(3, 0, (⟨#[]⟩ : ByteArray).data.toList, true)] rfl (row_new wr 3 0 ⟨#[]⟩ true) rfl (by decide) (by omega) (by simp; omega) ?_)
                    intro v' w6 hown6 hgrow
                    have h6 := (hnx.alloc hnx.size _).trans (hgrow.belowR (hown.alloc _) (by have := hnx.size; simp; omega))
                    clear hgrow
                    go_wp2
                    go_roundw
                    case rel => exact ⟨l ++ [(3, 0, (⟨#[]⟩ : ByteArray).data.toList, true)], p + 1, by go_num, by rw [List.length_append]; simp; omega, by omega, by omega, HS, vok_snoc hvok ⟨by simp, by unfold In64; simp⟩, hown6, h6⟩
                    case measure => simp [intOf]; omega
                · have HS : Hid (St bs (l ++ [(3, 0, (⟨#[]⟩ : ByteArray).data.toList, false)]) (p + 1)) := st_step HST.out HBS.out hlb (next_bool false hp (by rw [HCP.out]; exact one_byte (n := 3) (by decide) h3))
                  have h4 : ((c.toNat : Int) == 4) = false := by
                    have : c.toNat = 3 := by simp at h3; omega
                    rw [this]; rfl
                  go_wp2_with (at_builtin; refine wp_appR _ rfl _ _ rfl w.heap.size _ l rfl (hown.alloc _) wr.heap.size 1 1 [(3, 0, (⟨#[]⟩ : ByteArray).data.toList, false)] rfl (row_new wr 3 0 ⟨#[]⟩ false) rfl (by decide) (by omega) (by simp; omega) ?_)
                  intro v' w6 hown6 hgrow
                  have h6 := (hnx.alloc hnx.size _).trans (hgrow.belowR (hown.alloc _) (by have := hnx.size; simp; omega))
                  clear hgrow
                  go_wp2
                  go_roundw
                  case rel => exact ⟨l ++ [(3, 0, (⟨#[]⟩ : ByteArray).data.toList, false)], p + 1, by go_num, by rw [List.length_append]; simp; omega, by omega, by omega, HS, vok_snoc hvok ⟨by simp, by unfold In64; simp⟩, hown6, h6⟩
                  case measure => simp [intOf]; omega
              · have hcm := one_byte (n := 2) (by decide) h2
                by_cases hp2 : p + 2 < bs.length
                · obtain ⟨d1, hd1⟩ : ∃ d1, bs[p + 1]'(by omega) = d1 := ⟨_, rfl⟩
                  obtain ⟨d2, hd2⟩ : ∃ d2, bs[p + 2] = d2 := ⟨_, rfl⟩
                  have c1 := HBy.out (p + 1) (by omega)
                  have c2 := HBy.out (p + 2) hp2
                  rw [hd1] at c1
                  rw [hd2] at c2
                  have hw1 := wrap_byte d1
                  have hw2 := wrap_byte d2
                  have hl1 := d1.toNat_lt
                  have hl2 := d2.toNat_lt
                  obtain ⟨n, hn⟩ : ∃ n, d1.toNat + 256 * d2.toNat = n := ⟨_, rfl⟩
                  have hnI : (d1.toNat : Int) + 256 * (d2.toNat : Int) = (n : Int) := by omega
                  have hnb : n ≤ 65535 := by omega
                  have HN : Hid (∀ h2 : p + 2 < bs.length, n = (bs[p + 1]'(by omega)).toNat + 256 * (bs[p + 2]).toNat) := fun _ => by rw [hd1, hd2, hn]
                  by_cases hto : p + 3 + n ≤ bs.length
                  · obtain ⟨lo, hlo⟩ : ∃ lo : Nat, p + 3 = lo := ⟨_, rfl⟩
                    obtain ⟨to, hto'⟩ : ∃ to : Nat, lo + n = to := ⟨_, rfl⟩
                    have hP3 : (p : Int) + 3 = (lo : Int) := by omega
                    have hT : (lo : Int) + (n : Int) = (to : Int) := by omega
                    have hlt : lo ≤ to := by omega
                    have htl : to ≤ bs.length := by omega
                    have HS0 := st_step HST.out HBS.out hlb (next_text (n := n) (to := to) (lo := lo) hp (by rw [HCP.out]; exact hcm) HN.out (by omega) (by omega))
                    obtain ⟨X, hXe⟩ : ∃ X, (bs.drop lo).take (to - lo) = X := ⟨_, rfl⟩
                    have hXl : X.length = to - lo := by rw [← hXe, List.length_take, List.length_drop]; omega
                    rw [hXe] at HS0
                    have HS : Hid (St bs (l ++ [(2, 0, (⟨X.toArray⟩ : ByteArray).data.toList, false)]) (p + 3 + n)) := by
                      show St _ _ _
                      simpa using HS0
                    have hX : ((2, 0, (⟨X.toArray⟩ : ByteArray).data.toList, false) : V4).2.2.1.length ≤ 70000 := by
                      show (⟨X.toArray⟩ : ByteArray).data.toList.length ≤ 70000
                      simp
                      omega
                    have hXc : ∀ j (hj : j < X.length), wr.cell? ((a.add lo).add j) = some (bv X[j]) := fun j hj => by
                      subst hXe
                      rw [add_add, HBy.out (lo + j) (by omega)]
                      simp [bv, List.getElem_take, List.getElem_drop]
                    by_cases hvl : vc = lo
                    · have hXn : X = [] := List.eq_nil_of_length_eq_zero (by omega)
                      have hz0 : to - lo = 0 := by omega
                      have hcv : ∀ nq, (convert 25 9 (.slice (some a) 0 0)).run Try.prog (wr.drewN nq) = .ok (.string ⟨X.toArray⟩) (wr.drewN nq) := fun nq => by
                        rw [hXn]
                        exact conv_bytes (Or.inr ⟨a, 0, rfl, Nat.le_refl _, fun j hj => by cases hj⟩)
                      subst hvl
                      clear hXn hXl
                      clear hXe hXc HS0 HCP hd1 hd2 hn HN hto hlo hto'
                      obtain ⟨p1, hP1, hp1l, c1⟩ : ∃ p1 : Nat, (p : Int) + 1 = (p1 : Int) ∧ p1 < bs.length ∧ wr.cell? (a.add p1) = some (.int .u8 (d1.toNat : Int)) := ⟨p + 1, by omega, by omega, c1⟩
                      obtain ⟨p2, hP2, hp2l, c2⟩ : ∃ p2 : Nat, (p : Int) + 2 = (p2 : Int) ∧ p2 < bs.length ∧ wr.cell? (a.add p2) = some (.int .u8 (d2.toNat : Int)) := ⟨p + 2, by omega, by omega, c2⟩
                      go_wp2_with fail
                      go_quiet (fail)
                      go_wp2_with fail
                      refine (text_any _ _).mono ?_
                      rintro e w5 ⟨rfl, hb5⟩
                      have hbq : Below wr.heap.size wr w5 := (below_drewN (Below.refl _ _) nq).trans hb5
                      have hown5 := hown.keepB hbq
                      have H5 := keepA hnx hbq
                      have hs5 := H5.size
                      clear hb5 hbq
                      go_wp2_with (at_builtin; refine wp_appR _ rfl _ _ rfl w.heap.size _ l rfl (hown5.alloc _) w5.heap.size 1 1 [(2, 0, (⟨X.toArray⟩ : ByteArray).data.toList, false)] rfl (row_new w5 2 0 ⟨X.toArray⟩ false) rfl (by decide) (by omega) (by simp; omega) ?_)
                      intro v' w6 hown6 hgrow
                      have h6 := (H5.alloc H5.size _).trans (hgrow.belowR (hown5.alloc _) (by simp; omega))
                      clear hgrow
                      go_wp2
                      go_roundw
                      case rel => exact ⟨l ++ [(2, 0, (⟨X.toArray⟩ : ByteArray).data.toList, false)], p + 3 + n, by go_num, by rw [List.length_append]; simp; omega, by omega, by omega, HS, vok_snoc hvok ⟨hX, by unfold In64; simp⟩, hown6, h6⟩
                      case measure => simp [intOf]; omega
                    · have hcv : ∀ nq, (convert 25 9 (.slice (some (a.add lo)) (to - lo) (vc - lo))).run Try.prog (wr.drewN nq) = .ok (.string ⟨X.toArray⟩) (wr.drewN nq) := fun nq => by
                        rw [← hXl]
                        exact conv_bytes (Or.inr ⟨a.add lo, vc - lo, rfl, by omega, hXc⟩)
                      clear hXe hXc HS0 HCP hd1 hd2 hn HN hto hlo hto'
                      obtain ⟨p1, hP1, hp1l, c1⟩ : ∃ p1 : Nat, (p : Int) + 1 = (p1 : Int) ∧ p1 < bs.length ∧ wr.cell? (a.add p1) = some (.int .u8 (d1.toNat : Int)) := ⟨p + 1, by omega, by omega, c1⟩
                      obtain ⟨p2, hP2, hp2l, c2⟩ : ∃ p2 : Nat, (p : Int) + 2 = (p2 : Int) ∧ p2 < bs.length ∧ wr.cell? (a.add p2) = some (.int .u8 (d2.toNat : Int)) := ⟨p + 2, by omega, by omega, c2⟩
                      go_wp2_with fail
                      go_quiet (fail)
                      go_wp2_with fail
                      refine (text_any _ _).mono ?_
                      rintro e w5 ⟨rfl, hb5⟩
                      have hbq : Below wr.heap.size wr w5 := (below_drewN (Below.refl _ _) nq).trans hb5
                      have hown5 := hown.keepB hbq
                      have H5 := keepA hnx hbq
                      have hs5 := H5.size
                      clear hb5 hbq
                      go_wp2_with (at_builtin; refine wp_appR _ rfl _ _ rfl w.heap.size _ l rfl (hown5.alloc _) w5.heap.size 1 1 [(2, 0, (⟨X.toArray⟩ : ByteArray).data.toList, false)] rfl (row_new w5 2 0 ⟨X.toArray⟩ false) rfl (by decide) (by omega) (by simp; omega) ?_)
                      intro v' w6 hown6 hgrow
                      have h6 := (H5.alloc H5.size _).trans (hgrow.belowR (hown5.alloc _) (by simp; omega))
                      clear hgrow
                      go_wp2
                      go_roundw
                      case rel => exact ⟨l ++ [(2, 0, (⟨X.toArray⟩ : ByteArray).data.toList, false)], p + 3 + n, by go_num, by rw [List.length_append]; simp; omega, by omega, by omega, HS, vok_snoc hvok ⟨hX, by unfold In64; simp⟩, hown6, h6⟩
                      case measure => simp [intOf]; omega
                  · obtain ⟨lo, hlo⟩ : ∃ lo : Nat, p + 3 = lo := ⟨_, rfl⟩
                    have hP3 : (p : Int) + 3 = (lo : Int) := by omega
                    have hT : ¬ (lo : Int) + (n : Int) ≤ (bs.length : Int) := by omega
                    have hlt : lo ≤ bs.length := by omega
                    have HS0 := st_step HST.out HBS.out hlb (next_text (n := n) (to := bs.length) (lo := lo) hp (by rw [HCP.out]; exact hcm) HN.out (by omega) (by omega))
                    obtain ⟨X, hXe⟩ : ∃ X, (bs.drop lo).take (bs.length - lo) = X := ⟨_, rfl⟩
                    have hXl : X.length = bs.length - lo := by rw [← hXe, List.length_take, List.length_drop]; omega
                    rw [hXe] at HS0
                    have HS : Hid (St bs (l ++ [(2, 0, (⟨X.toArray⟩ : ByteArray).data.toList, false)]) (p + 3 + n)) := by
                      show St _ _ _
                      simpa using HS0
                    have hX : ((2, 0, (⟨X.toArray⟩ : ByteArray).data.toList, false) : V4).2.2.1.length ≤ 70000 := by
                      show (⟨X.toArray⟩ : ByteArray).data.toList.length ≤ 70000
                      simp
                      omega
                    have hXc : ∀ j (hj : j < X.length), wr.cell? ((a.add lo).add j) = some (bv X[j]) := fun j hj => by
                      subst hXe
                      rw [add_add, HBy.out (lo + j) (by omega)]
                      simp [bv, List.getElem_take, List.getElem_drop]
                    by_cases hvl : vc = lo
                    · have hXn : X = [] := List.eq_nil_of_length_eq_zero (by omega)
                      have hz0 : bs.length - lo = 0 := by omega
                      have hcv : ∀ nq, (convert 25 9 (.slice (some a) 0 0)).run Try.prog (wr.drewN nq) = .ok (.string ⟨X.toArray⟩) (wr.drewN nq) := fun nq => by
                        rw [hXn]
                        exact conv_bytes (Or.inr ⟨a, 0, rfl, Nat.le_refl _, fun j hj => by cases hj⟩)
                      subst hvl
                      clear hXn hXl
                      clear hXe hXc HS0 HCP hd1 hd2 hn HN hto hlo
                      obtain ⟨p1, hP1, hp1l, c1⟩ : ∃ p1 : Nat, (p : Int) + 1 = (p1 : Int) ∧ p1 < bs.length ∧ wr.cell? (a.add p1) = some (.int .u8 (d1.toNat : Int)) := ⟨p + 1, by omega, by omega, c1⟩
                      obtain ⟨p2, hP2, hp2l, c2⟩ : ∃ p2 : Nat, (p : Int) + 2 = (p2 : Int) ∧ p2 < bs.length ∧ wr.cell? (a.add p2) = some (.int .u8 (d2.toNat : Int)) := ⟨p + 2, by omega, by omega, c2⟩
                      go_wp2_with fail
                      go_quiet (fail)
                      go_wp2_with fail
                      refine (text_any _ _).mono ?_
                      rintro e w5 ⟨rfl, hb5⟩
                      have hbq : Below wr.heap.size wr w5 := (below_drewN (Below.refl _ _) nq).trans hb5
                      have hown5 := hown.keepB hbq
                      have H5 := keepA hnx hbq
                      have hs5 := H5.size
                      clear hb5 hbq
                      go_wp2_with (at_builtin; refine wp_appR _ rfl _ _ rfl w.heap.size _ l rfl (hown5.alloc _) w5.heap.size 1 1 [(2, 0, (⟨X.toArray⟩ : ByteArray).data.toList, false)] rfl (row_new w5 2 0 ⟨X.toArray⟩ false) rfl (by decide) (by omega) (by simp; omega) ?_)
                      intro v' w6 hown6 hgrow
                      have h6 := (H5.alloc H5.size _).trans (hgrow.belowR (hown5.alloc _) (by simp; omega))
                      clear hgrow
                      go_wp2
                      go_roundw
                      case rel => exact ⟨l ++ [(2, 0, (⟨X.toArray⟩ : ByteArray).data.toList, false)], p + 3 + n, by go_num, by rw [List.length_append]; simp; omega, by omega, by omega, HS, vok_snoc hvok ⟨hX, by unfold In64; simp⟩, hown6, h6⟩
                      case measure => simp [intOf]; omega
                    · have hcv : ∀ nq, (convert 25 9 (.slice (some (a.add lo)) (bs.length - lo) (vc - lo))).run Try.prog (wr.drewN nq) = .ok (.string ⟨X.toArray⟩) (wr.drewN nq) := fun nq => by
                        rw [← hXl]
                        exact conv_bytes (Or.inr ⟨a.add lo, vc - lo, rfl, by omega, hXc⟩)
                      clear hXe hXc HS0 HCP hd1 hd2 hn HN hto hlo
                      obtain ⟨p1, hP1, hp1l, c1⟩ : ∃ p1 : Nat, (p : Int) + 1 = (p1 : Int) ∧ p1 < bs.length ∧ wr.cell? (a.add p1) = some (.int .u8 (d1.toNat : Int)) := ⟨p + 1, by omega, by omega, c1⟩
                      obtain ⟨p2, hP2, hp2l, c2⟩ : ∃ p2 : Nat, (p : Int) + 2 = (p2 : Int) ∧ p2 < bs.length ∧ wr.cell? (a.add p2) = some (.int .u8 (d2.toNat : Int)) := ⟨p + 2, by omega, by omega, c2⟩
                      go_wp2_with fail
                      go_quiet (fail)
                      go_wp2_with fail
                      refine (text_any _ _).mono ?_
                      rintro e w5 ⟨rfl, hb5⟩
                      have hbq : Below wr.heap.size wr w5 := (below_drewN (Below.refl _ _) nq).trans hb5
                      have hown5 := hown.keepB hbq
                      have H5 := keepA hnx hbq
                      have hs5 := H5.size
                      clear hb5 hbq
                      go_wp2_with (at_builtin; refine wp_appR _ rfl _ _ rfl w.heap.size _ l rfl (hown5.alloc _) w5.heap.size 1 1 [(2, 0, (⟨X.toArray⟩ : ByteArray).data.toList, false)] rfl (row_new w5 2 0 ⟨X.toArray⟩ false) rfl (by decide) (by omega) (by simp; omega) ?_)
                      intro v' w6 hown6 hgrow
                      have h6 := (H5.alloc H5.size _).trans (hgrow.belowR (hown5.alloc _) (by simp; omega))
                      clear hgrow
                      go_wp2
                      go_roundw
                      case rel => exact ⟨l ++ [(2, 0, (⟨X.toArray⟩ : ByteArray).data.toList, false)], p + 3 + n, by go_num, by rw [List.length_append]; simp; omega, by omega, by omega, HS, vok_snoc hvok ⟨hX, by unfold In64; simp⟩, hown6, h6⟩
                      case measure => simp [intOf]; omega
                · have hT : ¬ (p : Int) + 3 ≤ (bs.length : Int) := by omega
                  have HS0 := st_step HST.out HBS.out hlb (next_text (n := 0) (to := bs.length) (lo := bs.length) hp (by rw [HCP.out]; exact hcm) (fun h => absurd h hp2) (by omega) (by omega))
                  obtain ⟨X, hXe⟩ : ∃ X, (bs.drop bs.length).take (bs.length - bs.length) = X := ⟨_, rfl⟩
                  have hXl : X.length = bs.length - bs.length := by rw [← hXe, List.length_take, List.length_drop]; omega
                  rw [hXe] at HS0
                  have HS : Hid (St bs (l ++ [(2, 0, (⟨X.toArray⟩ : ByteArray).data.toList, false)]) (p + 3 + 0)) := by
                    show St _ _ _
                    simpa using HS0
                  have hX : ((2, 0, (⟨X.toArray⟩ : ByteArray).data.toList, false) : V4).2.2.1.length ≤ 70000 := by
                    show (⟨X.toArray⟩ : ByteArray).data.toList.length ≤ 70000
                    simp
                    omega
                  by_cases hvl : vc = bs.length
                  · have hXn : X = [] := List.eq_nil_of_length_eq_zero (by omega)
                    have hz0 : bs.length - bs.length = 0 := by omega
                    have hcv : (convert 25 9 (.slice (some a) 0 0)).run Try.prog wr = .ok (.string ⟨X.toArray⟩) wr := by
                      rw [hXn]
                      exact conv_bytes (Or.inr ⟨a, 0, rfl, Nat.le_refl _, fun j hj => by cases hj⟩)
                    subst hvl
                    clear hXn hXl
                    clear hXe HS0 HCP
                    go_wp2_with fail
                    refine (text_any _ _).mono ?_
                    rintro e w5 ⟨rfl, hb5⟩
                    have hbq : Below wr.heap.size wr w5 := hb5
                    have hown5 := hown.keepB hbq
                    have H5 := keepA hnx hbq
                    have hs5 := H5.size
                    clear hb5 hbq
                    go_wp2_with (at_builtin; refine wp_appR _ rfl _ _ rfl w.heap.size _ l rfl (hown5.alloc _) w5.heap.size 1 1 [(2, 0, (⟨X.toArray⟩ : ByteArray).data.toList, false)] rfl (row_new w5 2 0 ⟨X.toArray⟩ false) rfl (by decide) (by omega) (by simp; omega) ?_)
                    intro v' w6 hown6 hgrow
                    have h6 := (H5.alloc H5.size _).trans (hgrow.belowR (hown5.alloc _) (by simp; omega))
                    clear hgrow
                    go_wp2
                    go_roundw
                    case rel => exact ⟨l ++ [(2, 0, (⟨X.toArray⟩ : ByteArray).data.toList, false)], p + 3 + 0, by go_num, by rw [List.length_append]; simp; omega, by omega, by omega, HS, vok_snoc hvok ⟨hX, by unfold In64; simp⟩, hown6, h6⟩
                    case measure => simp [intOf]; omega
                  · have hcv : (convert 25 9 (.slice (some (a.add bs.length)) 0 (vc - bs.length))).run Try.prog wr = .ok (.string ⟨X.toArray⟩) wr := by
                      have hXn : X = [] := List.eq_nil_of_length_eq_zero (by omega)
                      rw [hXn]
                      exact conv_bytes (Or.inr ⟨a.add bs.length, vc - bs.length, rfl, Nat.zero_le _, fun j hj => by cases hj⟩)
                    clear hXe HS0 HCP
                    go_wp2_with fail
                    refine (text_any _ _).mono ?_
                    rintro e w5 ⟨rfl, hb5⟩
                    have hbq : Below wr.heap.size wr w5 := hb5
                    have hown5 := hown.keepB hbq
                    have H5 := keepA hnx hbq
                    have hs5 := H5.size
                    clear hb5 hbq
                    go_wp2_with (at_builtin; refine wp_appR _ rfl _ _ rfl w.heap.size _ l rfl (hown5.alloc _) w5.heap.size 1 1 [(2, 0, (⟨X.toArray⟩ : ByteArray).data.toList, false)] rfl (row_new w5 2 0 ⟨X.toArray⟩ false) rfl (by decide) (by omega) (by simp; omega) ?_)
                    intro v' w6 hown6 hgrow
                    have h6 := (H5.alloc H5.size _).trans (hgrow.belowR (hown5.alloc _) (by simp; omega))
                    clear hgrow
                    go_wp2
                    go_roundw
                    case rel => exact ⟨l ++ [(2, 0, (⟨X.toArray⟩ : ByteArray).data.toList, false)], p + 3 + 0, by go_num, by rw [List.length_append]; simp; omega, by omega, by omega, HS, vok_snoc hvok ⟨hX, by unfold In64; simp⟩, hown6, h6⟩
                    case measure => simp [intOf]; omega
            · have hcm := one_byte (n := 1) (by decide) h1
              by_cases hp8 : p + 8 < bs.length
              · have e8 : leV (seg bs p 8) = 0 := by rw [seg_top]; rfl
                go_wp2
                go_loop [6, 7] (fun u i => ∃ k : Nat, k ≤ 8 ∧ i = .int .i64 k ∧ u = .int .u64 (leV (seg bs p k) : Nat)) (fun _ i => (intOf i).toNat)
                case atStart => exact ⟨8, Nat.le_refl _, rfl, by rw [e8]; rfl⟩
                case round =>
                  obtain ⟨k, hk, rfl, rfl⟩ := hrel
                  by_cases hk1 : 1 ≤ k
                  · have ck := HBy.out (p + k) (by omega)
                    have HSG : Hid (leV (seg bs p (k - 1)) = (bs[p + k]'(by omega)).toNat + 256 * leV (seg bs p k)) := seg_step hk1 hk (by omega)
                    have hU := seg_lt bs p k hk1
                    generalize leV (seg bs p k) = U at *
                    generalize (bs[p + k]'(by omega)) = d at *
                    have hd := d.toNat_lt
                    have hwd : IntKind.u64.wrap (d.toNat : Int) = (d.toNat : Int) := by rw [IntKind.wrap_u64]; omega
                    clear cp
                    go_wp2
                    refine ⟨⟨k - 1, by omega, by go_num, by rw [HSG.out]; go_num⟩, by simp [intOf]; omega⟩
                  · obtain rfl : k = 0 := by omega
                    obtain ⟨U, hUe⟩ : ∃ U, leV (seg bs p 0) = U := ⟨_, rfl⟩
                    have hU8 : U < 256 ^ 8 := by rw [← hUe, seg_all]; exact leV_take_lt _ 8 (by rw [List.length_drop]; omega)
                    have HS : Hid (St bs (l ++ [(1, back64 U, (⟨#[]⟩ : ByteArray).data.toList, false)]) (p + 9)) := st_step HST.out HBS.out hlb (next_num hp (by rw [HCP.out]; exact hcm) (fun _ => by rw [← hUe, seg_all]))
                    rw [hUe]
                    clear hUe e8
                    have hw := wrap_back hU8
                    have hbk := (back_bits hU8).2
                    have hvx : (((1, back64 U, (⟨#[]⟩ : ByteArray).data.toList, false) : V4).2.2.1.length ≤ 70000 ∧ In64 (1, back64 U, (⟨#[]⟩ : ByteArray).data.toList, false)) := ⟨by simp, hbk⟩
                    generalize back64 U = NN at *
                    clear hU8 hbk cp
                    go_wp2_with fail
                    refine (num_any NN _).mono ?_
                    rintro e w5 ⟨rfl, hb5⟩
                    have hown5 := hown.keepB hb5
                    have H5 := keepA hnx hb5
                    have hs5 := H5.size
                    clear hb5
                    go_wp2_with (at_builtin; refine wp_appR _ rfl _ _ rfl w.heap.size _ l rfl (hown5.alloc _) w5.heap.size 1 1 [(1, NN, (⟨#[]⟩ : ByteArray).data.toList, false)] rfl (row_new w5 1 NN ⟨#[]⟩ false) rfl (by decide) (by omega) (by simp; omega) ?_)
                    intro v' w6 hown6 hgrow
                    have h6 := (H5.alloc H5.size _).trans (hgrow.belowR (hown5.alloc _) (by simp; omega))
                    clear hgrow
                    go_wp2
                    go_roundw
                    case rel => exact ⟨l ++ [(1, NN, (⟨#[]⟩ : ByteArray).data.toList, false)], p + 9, by go_num, by rw [List.length_append]; simp; omega, by omega, by omega, HS, vok_snoc hvok hvx, hown6, h6⟩
                    case measure => simp [intOf]; omega
              · go_wp2
                go_loop [6, 7] (fun u i => i = .int .i64 8 ∧ u = .int .u64 0) (fun _ i => (intOf i).toNat)
                case atStart => exact ⟨rfl, rfl⟩
                case round =>
                  obtain ⟨rfl, rfl⟩ := hrel
                  obtain ⟨U, hUe⟩ : ∃ U : Nat, (0 : Int) = (U : Int) ∧ U = 0 := ⟨0, rfl, rfl⟩
                  have hU8 : U < 256 ^ 8 := by rw [hUe.2]; decide
                  have HS : Hid (St bs (l ++ [(1, back64 U, (⟨#[]⟩ : ByteArray).data.toList, false)]) (p + 9)) := st_step HST.out HBS.out hlb (next_num hp (by rw [HCP.out]; exact hcm) (fun h => absurd h hp8))
                  rw [hUe.1]
                  clear hUe
                  have hw := wrap_back hU8
                  have hbk := (back_bits hU8).2
                  have hvx : (((1, back64 U, (⟨#[]⟩ : ByteArray).data.toList, false) : V4).2.2.1.length ≤ 70000 ∧ In64 (1, back64 U, (⟨#[]⟩ : ByteArray).data.toList, false)) := ⟨by simp, hbk⟩
                  generalize back64 U = NN at *
                  clear hU8 hbk cp
                  go_wp2_with fail
                  refine (num_any NN _).mono ?_
                  rintro e w5 ⟨rfl, hb5⟩
                  have hown5 := hown.keepB hb5
                  have H5 := keepA hnx hb5
                  have hs5 := H5.size
                  clear hb5
                  go_wp2_with (at_builtin; refine wp_appR _ rfl _ _ rfl w.heap.size _ l rfl (hown5.alloc _) w5.heap.size 1 1 [(1, NN, (⟨#[]⟩ : ByteArray).data.toList, false)] rfl (row_new w5 1 NN ⟨#[]⟩ false) rfl (by decide) (by omega) (by simp; omega) ?_)
                  intro v' w6 hown6 hgrow
                  have h6 := (H5.alloc H5.size _).trans (hgrow.belowR (hown5.alloc _) (by simp; omega))
                  clear hgrow
                  go_wp2
                  go_roundw
                  case rel => exact ⟨l ++ [(1, NN, (⟨#[]⟩ : ByteArray).data.toList, false)], p + 9, by go_num, by rw [List.length_append]; simp; omega, by omega, by omega, HS, vok_snoc hvok hvx, hown6, h6⟩
                  case measure => simp [intOf]; omega
          · have HS : Hid (St bs (l ++ [(0, 0, (⟨#[]⟩ : ByteArray).data.toList, false)]) (p + 1)) := st_step HST.out HBS.out hlb (next_null hp (by rw [HCP.out]; exact one_byte (n := 0) (by decide) h0))
            go_wp2_with (at_builtin; refine wp_appR _ rfl _ _ rfl w.heap.size _ l rfl (hown.alloc _) wr.heap.size 1 1 [(0, 0, (⟨#[]⟩ : ByteArray).data.toList, false)] rfl (row_new wr 0 0 ⟨#[]⟩ false) rfl (by decide) (by omega) (by simp; omega) ?_)
            intro v' w6 hown6 hgrow
            have h6 := (hnx.alloc hnx.size _).trans (hgrow.belowR (hown.alloc _) (by have := hnx.size; simp; omega))
            clear hgrow
            go_wp2
            go_roundw
            case rel => exact ⟨l ++ [(0, 0, (⟨#[]⟩ : ByteArray).data.toList, false)], p + 1, by go_num, by rw [List.length_append]; simp; omega, by omega, by omega, HS, vok_snoc hvok ⟨by simp, by unfold In64; simp⟩, hown6, h6⟩
            case measure => simp [intOf]; omega
        · have HEND : Hid (∀ m, OkR m → form m = bs → l = m) := st_end HST.out (Or.inr (Or.inr (by omega)))
          go_wp2_with fail
          refine (refEncode_any _ l _ hown.row (fun x hx => by have := (hvok x hx).1; omega) (fun x hx => (hvok x hx).2) (by omega)).mono ?_
          rintro e w4 ⟨hE, h4⟩
          have H4 := keepA hnx h4
          have hv4 := hv.keep h4
          have rr4 := hown.row.keep h4
          rcases hE with ⟨hlg, rfl⟩ | ⟨hlg, hrg, rfl⟩ | ⟨hlg, hrg, q, rfl, oq⟩
          · have HF : Hid (NoForm bs) := fun m hm hf => by
              have := HEND.out m hm hf
              subst this
              rw [ok_not_long hm] at hlg; cases hlg
            clear HEND
            go_wp2
            exact bodyPost_ret (v := .tuple #[.slice none 0 0, .int .i64 41]) (by simp [results, Try.results12, go_sem]) rfl ⟨Or.inr ⟨rfl, HF.out⟩, H4⟩
          · have HF : Hid (NoForm bs) := fun m hm hf => by
              have := HEND.out m hm hf
              subst this
              rw [ok_right hm] at hrg; cases hrg
            clear HEND
            go_wp2
            exact bodyPost_ret (v := .tuple #[.slice none 0 0, .int .i64 41]) (by simp [results, Try.results12, go_sem]) rfl ⟨Or.inr ⟨rfl, HF.out⟩, H4⟩
          · have HOK : Hid (OkR l) := okR_of hlg hrg (fun x hx => (hvok x hx).2)
            have hcv1 := conv_bytes oq.at
            have hcv2 := conv_bytes hv4
            have L1 := list_arr (form l)
            have L2 := list_arr bs
            clear hlg hrg oq
            cases hc : (form l == bs)
            · have HF : Hid (NoForm bs) := fun m hm hf => by
                have := HEND.out m hm hf
                subst this
                rw [hf] at hc
                simp at hc
              clear HEND
              go_wp2
              exact bodyPost_ret (v := .tuple #[.slice none 0 0, .int .i64 41]) (by simp [results, Try.results12, go_sem]) rfl ⟨Or.inr ⟨rfl, HF.out⟩, H4⟩
            · have HF : Hid (form l = bs) := eq_of_beq hc
              clear HEND
              go_wp2
              exact bodyPost_ret (v := .tuple #[.slice ro l.length rc_, .int .i64 0]) (by simp [results, Try.results12, go_sem]) rfl ⟨Or.inl ⟨l, _, rfl, HOK.out, HF.out, rr4⟩, H4⟩
      · have HEND : Hid (∀ m, OkR m → form m = bs → l = m) := st_end HST.out (Or.inr (Or.inl ⟨b0, t0, HBS.out, by omega⟩))
        go_wp2_with fail
        refine (refEncode_any _ l _ hown.row (fun x hx => by have := (hvok x hx).1; omega) (fun x hx => (hvok x hx).2) (by omega)).mono ?_
        rintro e w4 ⟨hE, h4⟩
        have H4 := keepA hnx h4
        have hv4 := hv.keep h4
        have rr4 := hown.row.keep h4
        rcases hE with ⟨hlg, rfl⟩ | ⟨hlg, hrg, rfl⟩ | ⟨hlg, hrg, q, rfl, oq⟩
        · have HF : Hid (NoForm bs) := fun m hm hf => by
            have := HEND.out m hm hf
            subst this
            rw [ok_not_long hm] at hlg; cases hlg
          clear HEND
          go_wp2
          exact bodyPost_ret (v := .tuple #[.slice none 0 0, .int .i64 41]) (by simp [results, Try.results12, go_sem]) rfl ⟨Or.inr ⟨rfl, HF.out⟩, H4⟩
        · have HF : Hid (NoForm bs) := fun m hm hf => by
            have := HEND.out m hm hf
            subst this
            rw [ok_right hm] at hrg; cases hrg
          clear HEND
          go_wp2
          exact bodyPost_ret (v := .tuple #[.slice none 0 0, .int .i64 41]) (by simp [results, Try.results12, go_sem]) rfl ⟨Or.inr ⟨rfl, HF.out⟩, H4⟩
        · have HOK : Hid (OkR l) := okR_of hlg hrg (fun x hx => (hvok x hx).2)
          have hcv1 := conv_bytes oq.at
          have hcv2 := conv_bytes hv4
          have L1 := list_arr (form l)
          have L2 := list_arr bs
          clear hlg hrg oq
          cases hc : (form l == bs)
          · have HF : Hid (NoForm bs) := fun m hm hf => by
              have := HEND.out m hm hf
              subst this
              rw [hf] at hc
              simp at hc
            clear HEND
            go_wp2
            exact bodyPost_ret (v := .tuple #[.slice none 0 0, .int .i64 41]) (by simp [results, Try.results12, go_sem]) rfl ⟨Or.inr ⟨rfl, HF.out⟩, H4⟩
          · have HF : Hid (form l = bs) := eq_of_beq hc
            clear HEND
            go_wp2
            exact bodyPost_ret (v := .tuple #[.slice ro l.length rc_, .int .i64 0]) (by simp [results, Try.results12, go_sem]) rfl ⟨Or.inl ⟨l, _, rfl, HOK.out, HF.out, rr4⟩, H4⟩
    · have HEND : Hid (∀ m, OkR m → form m = bs → l = m) := st_end HST.out (Or.inl (by omega))
      go_wp2_with fail
      refine (refEncode_any _ l _ hown.row (fun x hx => by have := (hvok x hx).1; omega) (fun x hx => (hvok x hx).2) (by omega)).mono ?_
      rintro e w4 ⟨hE, h4⟩
      have H4 := keepA hnx h4
      have hv4 := hv.keep h4
      have rr4 := hown.row.keep h4
      rcases hE with ⟨hlg, rfl⟩ | ⟨hlg, hrg, rfl⟩ | ⟨hlg, hrg, q, rfl, oq⟩
      · have HF : Hid (NoForm bs) := fun m hm hf => by
          have := HEND.out m hm hf
          subst this
          rw [ok_not_long hm] at hlg; cases hlg
        clear HEND
        go_wp2
        exact bodyPost_ret (v := .tuple #[.slice none 0 0, .int .i64 41]) (by simp [results, Try.results12, go_sem]) rfl ⟨Or.inr ⟨rfl, HF.out⟩, H4⟩
      · have HF : Hid (NoForm bs) := fun m hm hf => by
          have := HEND.out m hm hf
          subst this
          rw [ok_right hm] at hrg; cases hrg
        clear HEND
        go_wp2
        exact bodyPost_ret (v := .tuple #[.slice none 0 0, .int .i64 41]) (by simp [results, Try.results12, go_sem]) rfl ⟨Or.inr ⟨rfl, HF.out⟩, H4⟩
      · have HOK : Hid (OkR l) := okR_of hlg hrg (fun x hx => (hvok x hx).2)
        have hcv1 := conv_bytes oq.at
        have hcv2 := conv_bytes hv4
        have L1 := list_arr (form l)
        have L2 := list_arr bs
        clear hlg hrg oq
        cases hc : (form l == bs)
        · have HF : Hid (NoForm bs) := fun m hm hf => by
            have := HEND.out m hm hf
            subst this
            rw [hf] at hc
            simp at hc
          clear HEND
          go_wp2
          exact bodyPost_ret (v := .tuple #[.slice none 0 0, .int .i64 41]) (by simp [results, Try.results12, go_sem]) rfl ⟨Or.inr ⟨rfl, HF.out⟩, H4⟩
        · have HF : Hid (form l = bs) := eq_of_beq hc
          clear HEND
          go_wp2
          exact bodyPost_ret (v := .tuple #[.slice ro l.length rc_, .int .i64 0]) (by simp [results, Try.results12, go_sem]) rfl ⟨Or.inl ⟨l, _, rfl, HOK.out, HF.out, rr4⟩, H4⟩
end Go.Proofs.Ytfmnlgepllgpnaa
