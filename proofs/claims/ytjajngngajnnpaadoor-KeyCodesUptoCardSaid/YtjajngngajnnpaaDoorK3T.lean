/- The walks of the document's own reading of a code. -/
import Derived.Test.YtjajngngajnnpaaDoorK3S
namespace Go.Proofs.YtjajngngajnnpaaDoor
open Go.RowKit
set_option linter.unusedVariables false

/-- The result's own variable, in a world that has grown. -/
structure Res (b : Nat) (w : World) : Prop where
  box : Box w b 0 0 ⟨#[]⟩ false
  free : Open4 w b
theorem Res.new (w : World) : Res w.heap.size (w.alloc (.cells #[.int .i64 0, .int .i64 0, .string ⟨#[]⟩, .bool false] 39)) := ⟨Box.newAt _ _ _ _ _ rfl, Open4.newAt _ _ _ _ _ rfl⟩
theorem Res.keep {b : Nat} {w w' : World} (h : Res b w) (hb : Below w.heap.size w w') : Res b w' :=
  ⟨h.box.keep hb, ⟨(hb.frozen (p := ⟨b, 0, none⟩) h.box.lt).trans h.free.f0, (hb.frozen (p := ⟨b, 1, none⟩) h.box.lt).trans h.free.f1, (hb.frozen (p := ⟨b, 2, none⟩) h.box.lt).trans h.free.f2, (hb.frozen (p := ⟨b, 3, none⟩) h.box.lt).trans h.free.f3⟩⟩
theorem Res.alloc {b : Nat} {w : World} (h : Res b w) (o : Obj) : Res b (w.alloc o) := h.keep (below_alloc (Below.refl _ _) o)
theorem Res.grow {b : Nat} {w w' : World} {u u' : Value} {xs : List UInt8} (h : Res b w) (hg : GrowB w u w' u') (hown : OwnB (b + 1) w u xs) : Res b w' := by
  have e : some b ≠ u.ownBlock := fun e => by have := own_ge hown b e.symm; omega
  have hlt := h.box.lt
  exact ⟨⟨hg.grown.cell h.box.c0 e, hg.grown.cell h.box.c1 e, hg.grown.cell h.box.c2 e, hg.grown.cell h.box.c3 e⟩, ⟨(hg.grown.frozen_far ⟨b, 0, none⟩ hlt e).trans h.free.f0, (hg.grown.frozen_far ⟨b, 1, none⟩ hlt e).trans h.free.f1, (hg.grown.frozen_far ⟨b, 2, none⟩ hlt e).trans h.free.f2, (hg.grown.frozen_far ⟨b, 3, none⟩ hlt e).trans h.free.f3⟩⟩
theorem set4_below {w W : World} {p : Nat} {K N : Int} {S : ByteArray} {B : Bool} (h : Below w.heap.size w W) (hp : w.heap.size ≤ p) : Below w.heap.size w (set4 W p K N S B) := by
  unfold set4
  exact (((h.setCell hp _).setCell hp _).setCell hp _).setCell hp _
theorem no_text_end (s : ByteArray) (T : List UInt8) (i j : Nat) (h : rest s i = esc T ++ rest s j) (hj : ¬ j + 1 < s.size) : NoText (rest s i) := by
  rw [h]
  have hl := rest_len s j
  match e : rest s j, hl with
  | [], _ => exact no_text_short T
  | [c], _ =>
    by_cases hc : c = 0
    · subst hc; exact no_text_one T
    · have := no_text_short (T ++ [c])
      rw [esc_snoc_other _ _ _ hc] at this
      exact this
  | c :: d :: r, hl => simp at hl; omega

set_option maxHeartbeats 2000000 in
theorem refText_any (s : ByteArray) (w : World) (h0 : 0 < s.size) (hs : s.size ≤ 1099511627776) :
    Calls Tryd.prog 31 #[.string s] w fun e w' =>
      ((∃ (T : List UInt8) (n : Nat), e = .returned (.tuple #[val 2 0 ⟨T.toArray⟩ false, .int .i64 n]) ∧ 0 < n ∧ n ≤ s.size ∧ trimL T = T ∧ rest s 1 = esc T ++ 0 :: 0 :: rest s n) ∨
       (e = .returned (.tuple #[val 0 0 ⟨#[]⟩ false, .int .i64 0]) ∧ NoText (rest s 1))) ∧ Below w.heap.size w w' := by
  have R0 := Res.new w
  have B0 : Below w.heap.size w (w.alloc (.cells #[.int .i64 0, .int .i64 0, .string ⟨#[]⟩, .bool false] 39)) := below_alloc (Below.refl _ _) _
  go_enter Tryd.func31, Tryd.ntmps31
  go_wp2
  go_loopw [4, 5] (fun u i wr => ∃ (j : Nat) (T : List UInt8), 1 ≤ j ∧ j ≤ s.size ∧ i = .int .i64 j ∧ OwnB (w.heap.size + 1) wr u T ∧ Hid (rest s 1 = esc T ++ rest s j) ∧ T.length ≤ j ∧ Res w.heap.size wr ∧ Below w.heap.size w wr) (fun _ i _ => s.size - (intOf i).toNat)
  case atStart => exact ⟨1, [], Nat.le_refl _, by omega, rfl, World.ownsRow_nil _ _ _ _, rfl, Nat.zero_le _, R0, B0⟩
  case round =>
    obtain ⟨j, T, hj1, hjs, rfl, hown, HR, hTl, R, hnx⟩ := hrel
    have hlt := R.box.lt
    clear R0 B0
    by_cases hj : j + 1 < s.size
    · have r1 : Hid (rest s j = s[j] :: rest s (j + 1)) := rest_cons s j (by omega)
      have r2 : Hid (rest s (j + 1) = s[j + 1] :: rest s (j + 1 + 1)) := rest_cons s (j + 1) (by omega)
      have hjl : j < s.size := by omega
      cases hc : ((s[j].toNat : Int) != 0)
      · have hc0 : s[j] = 0 := by
          apply UInt8.toNat_inj.1; simp at hc; exact hc
        have HC0 : Hid (s[j] = 0) := hc0
        clear hc0
        cases hd : ((s[j + 1].toNat : Int) == 0)
        · cases hd2 : ((s[j + 1].toNat : Int) != 255)
          · have HR2 : Hid (rest s 1 = esc (T ++ [0]) ++ rest s (j + 1 + 1)) := by
              have hd3 : s[j + 1] = 255 := by apply UInt8.toNat_inj.1; simp at hd2; show _ = 255; omega
              show rest s 1 = _
              rw [HR.out, r1.out, r2.out, HC0.out, hd3, esc_snoc_zero]
            clear r1 r2 HR HC0
            go_wp2_with (at_builtin; refine wp_appB _ rfl _ _ rfl (w.heap.size + 1) _ T rfl (hown.alloc _) wr.heap.size 1 #[.int .u8 0] [0] rfl (heap_alloc_new wr _) rfl rfl (by decide) (by omega) (by simp; omega) ?_)
            intro v' w2 hown2 hgrow
            have R2 := (R.alloc (.cells #[.int .u8 0] 5)).grow hgrow (hown.alloc _)
            have hn2 : Below w.heap.size w w2 := (below_alloc hnx _).trans ((hgrow.below (hown.alloc _) (by simp; omega)).mono (by omega))
            clear hgrow hown R hnx
            go_wp2
            go_roundw
            case rel => exact ⟨j + 1 + 1, T ++ [0], by omega, by omega, by go_num, hown2, HR2, by simp; omega, R2, hn2⟩
            case measure => simp [intOf]; omega
          · have HN : Hid (NoText (rest s 1)) := by
              show NoText (rest s 1)
              rw [HR.out, r1.out, r2.out, HC0.out]
              exact no_text_bad _ _ _ (by intro e; rw [e] at hd; simp at hd) (by intro e; rw [e] at hd2; simp at hd2)
            clear r1 r2 HR HC0
            obtain ⟨⟨c0, c1, c2, c3⟩, ⟨f0, f1, f2, f3⟩⟩ := R
            go_wp2
            exact bodyPost_ret (v := .tuple #[val 0 0 ⟨#[]⟩ false, .int .i64 0]) (by simp [results, Tryd.results31, go_sem, c0, c1, c2, c3]) rfl ⟨Or.inr ⟨rfl, HN⟩, set4_below hnx (Nat.le_refl _)⟩
        · have HR2 : Hid (rest s 1 = esc T ++ 0 :: 0 :: rest s (j + 1 + 1)) := by
            show rest s 1 = _
            rw [HR.out, r1.out, r2.out, HC0.out, byte0 hd]
          have hcv := conv_any hown
          have hsz : (⟨T.toArray⟩ : ByteArray).size ≤ maxLen := by rw [size_arr]; unfold maxLen; omega
          clear r1 r2 HR HC0
          go_wp2_with fail
          refine (refWords_any _ _ hsz).mono ?_
          rintro e w2 ⟨rfl, rfl⟩
          cases ht : (T == trimL T)
          · have HN : Hid (NoText (rest s 1)) := by
              show NoText (rest s 1)
              rw [HR2.out]
              exact no_text_blank _ _ (fun e => by rw [e] at ht; simp at ht)
            obtain ⟨⟨c0, c1, c2, c3⟩, ⟨f0, f1, f2, f3⟩⟩ := R
            go_wp2
            exact bodyPost_ret (v := .tuple #[val 0 0 ⟨#[]⟩ false, .int .i64 0]) (by simp [results, Tryd.results31, go_sem, c0, c1, c2, c3]) rfl ⟨Or.inr ⟨rfl, HN⟩, set4_below hnx (Nat.le_refl _)⟩
          · have HT : Hid (trimL T = T) := by
              show trimL T = T
              have : T = trimL T := by simpa using ht
              exact this.symm
            go_wp2_with fail
            refine (text_any _ _).mono ?_
            rintro e w3 ⟨rfl, h3⟩
            obtain ⟨⟨c0, c1, c2, c3⟩, ⟨f0, f1, f2, f3⟩⟩ := R.keep h3
            have hn3 := keepA hnx h3
            clear h3 hnx
            go_wp2
            refine bodyPost_ret (v := .tuple #[val 2 0 ⟨T.toArray⟩ false, .int .i64 ((j + 1 + 1 : Nat) : Int)]) (by simp [results, Tryd.results31, go_sem, c0, c1, c2, c3]; omega) rfl ⟨Or.inl ⟨T, j + 1 + 1, rfl, by omega, by omega, HT, HR2⟩, set4_below hn3 (Nat.le_refl _)⟩
      · have HR2 : Hid (rest s 1 = esc (T ++ [s[j]]) ++ rest s (j + 1)) := by
          show rest s 1 = _
          rw [HR.out, r1.out, esc_snoc_other _ _ _ (by intro e; rw [e] at hc; simp at hc)]
        clear r1 r2 HR
        go_wp2_with (at_builtin; refine wp_appB _ rfl _ _ rfl (w.heap.size + 1) _ T rfl (hown.alloc _) wr.heap.size 1 #[.int .u8 s[j].toNat] [s[j]] rfl (heap_alloc_new wr _) rfl rfl (by decide) (by omega) (by simp; omega) ?_)
        intro v' w2 hown2 hgrow
        have R2 := (R.alloc (.cells #[.int .u8 s[j].toNat] 5)).grow hgrow (hown.alloc _)
        have hn2 : Below w.heap.size w w2 := (below_alloc hnx _).trans ((hgrow.below (hown.alloc _) (by simp; omega)).mono (by omega))
        clear hgrow hown R hnx
        go_wp2
        go_roundw
        case rel => exact ⟨j + 1, T ++ [s[j]], by omega, by omega, by go_num, hown2, HR2, by simp; omega, R2, hn2⟩
        case measure => simp [intOf]; omega
    · have HN : Hid (NoText (rest s 1)) := no_text_end s T 1 j HR.out hj
      obtain ⟨⟨c0, c1, c2, c3⟩, ⟨f0, f1, f2, f3⟩⟩ := R
      go_wp2
      exact bodyPost_ret (v := .tuple #[val 0 0 ⟨#[]⟩ false, .int .i64 0]) (by simp [results, Tryd.results31, go_sem, c0, c1, c2, c3]) rfl ⟨Or.inr ⟨rfl, HN⟩, set4_below hnx (Nat.le_refl _)⟩
end Go.Proofs.YtjajngngajnnpaaDoor
