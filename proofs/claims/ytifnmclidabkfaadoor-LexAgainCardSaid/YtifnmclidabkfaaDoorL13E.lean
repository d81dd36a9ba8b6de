/- The program's scanner: what stands at its place, what is taken. -/
import Derived.Test.YtifnmclidabkfaaDoorL13D
import Derived.Test.YtifnmclidabkfaaDoorShelf
namespace Go.Proofs.YtifnmclidabkfaaDoor
open Go.RowKit
set_option linter.unusedVariables false
set_option linter.unusedSimpArgs false

theorem ext_rest (s : ByteArray) (p : Nat) : (s.extract p s.size).data.toList = rest s p := by
  unfold rest
  rw [ByteArray.data_extract, Array.toList_extract]
  simp [List.extract]
  exact List.take_of_length_le (by simp)
theorem ext_take (s : ByteArray) (p n : Nat) : (s.extract p (p + n)).data.toList = (rest s p).take n := by
  unfold rest
  rw [ByteArray.data_extract, Array.toList_extract]
  simp [List.extract]
theorem stands_any {w : World} {b : Nat} {s : ByteArray} {p : Nat} (h : Sc w b s p) (hs : s.size ≤ 10000) (v : ByteArray) : Calls Tryd.prog 16 #[.pointer (some ⟨b, 0, none⟩), .string v] w fun e w' => e = .returned (.bool (v.data.toList.isPrefixOf (rest s p))) ∧ Below w.heap.size w w' := by
  have c0 := h.c0
  have c1 := h.c1
  have hp := h.le
  have hp1 : (p : Int) ≤ (s.size : Int) := by omega
  have hc : ∀ W : World, Calls Tryd.prog 25 #[.string (s.extract p s.size), .string v] W fun e w' => e = .returned (.bool (v.data.toList.isPrefixOf (rest s p))) ∧ w' = W := fun W => by
    have := Tryd.strings_HasPrefix (s.extract p s.size) v W
    rw [ext_rest] at this
    exact this
  generalize v.data.toList.isPrefixOf (rest s p) = R at *
  clear h
  go_enter Tryd.func16, Tryd.ntmps16
  go_wp2_with fail
  go_quiet ((go_at_call 25; exact Calls.quiet_of_same (hc _)))
  go_wp2_with fail
  go_ret
  exact ⟨rfl, ⟨rfl, rfl, rfl, Nat.le_refl _, fun _ _ => rfl⟩⟩
/-- What taking comes to: the bytes of a kind, the scanner behind them. -/
structure TkTo (w : World) (b : Nat) (s : ByteArray) (p : Nat) (k : UInt8 → Bool) (F : Nat → Prop) (J : List UInt8 → World → Prop) (e : Ending) (w' : World) : Prop where
  e : e = .returned (.string (s.extract p (p + ((rest s p).takeWhile k).length)))
  sc : Sc w' b s (p + ((rest s p).takeWhile k).length)
  fr : Fr w w' (fun i => i = b ∨ F i)
  j : J ((rest s p).takeWhile k) w'
theorem rest_tk (s : ByteArray) {p n : Nat} (h : p + n < s.size) : (rest s p).take (n + 1) = (rest s p).take n ++ [s[p + n]] := by
  rw [List.take_add_one]
  have : (rest s p)[n]? = some s[p + n] := by
    unfold rest
    rw [List.getElem?_drop]
    have : p + n < s.data.toList.length := by simpa using h
    rw [List.getElem?_eq_getElem this]
    rfl
  rw [this]
  rfl
theorem tk_end (s : ByteArray) {p n : Nat} (k : UInt8 → Bool) (hn : p + n ≤ s.size) (h1 : ∀ j, j < n → ∀ h : p + j < s.size, k s[p + j] = true) (h2 : ∀ h : p + n < s.size, k s[p + n] = false) : ((rest s p).takeWhile k).length = n ∧ (rest s p).takeWhile k = (rest s p).take n := by
  have := tw_stop (p := k) s s.size p n (by omega) hn h1 h2
  exact ⟨this, by rw [← this, tw_pre]⟩
set_option maxHeartbeats 1000000 in
theorem take_any {w : World} {b : Nat} {s : ByteArray} {p : Nat} (h : Sc w b s p) (hs : s.size ≤ 10000) (k : UInt8 → Bool) (g : Nat) (lb : Array Value) (eg : Enters Tryd.prog g) (F : Nat → Prop) (hFb : ¬ F b) (J : List UInt8 → World → Prop) (hJ0 : J [] w) (hJ : ∀ l W W', J l W → Fr W W' (fun i => i = b) → J l W')
    (hg : ∀ l c W, J l W → Fr w W (fun i => i = b ∨ F i) → Calls Tryd.prog g (#[.int .u8 c.toNat] ++ lb) W fun e W' => e = .returned (.bool (k c)) ∧ Fr W W' F ∧ J (if k c then l ++ [c] else l) W') :
    Calls Tryd.prog 14 #[.pointer (some ⟨b, 0, none⟩), .func (.func g) #[] lb] w fun e w' => TkTo w b s p k F J e w' := by
  have HC : Hid (Sc w b s p) := h
  have c1 := h.c1
  have hp := h.le
  unfold Enters at eg
  clear h
  have HJ0 : Hid (J [] w) := hJ0
  clear hJ0
  go_enter Tryd.func14, Tryd.ntmps14
  go_wp2_with fail
  clear c1
  go_loopg [] s.size (fun kx wr => ∃ n : Nat, s.size - (p + n) ≤ kx ∧ p + n ≤ s.size ∧ Hid (Sc wr b s (p + n)) ∧ Hid (Fr w wr (fun i => i = b ∨ F i)) ∧ Hid (J ((rest s p).take n) wr) ∧ Hid (∀ j, j < n → ∀ h : p + j < s.size, k s[p + j] = true))
  case atStart => exact ⟨0, by omega, hp, HC, Fr.refl _ _, (by have := HJ0.out; simpa only [List.take_zero] using this : J ((rest s p).take 0) w), fun j hj => by omega⟩
  case round =>
    rename World => wr
    obtain ⟨n, hkx, hn, HS, HF, HJ, HA⟩ := hrel
    clear HC HJ0
    have hle : ((p + n : Nat) : Int) = (p : Int) + (n : Int) := by omega
    by_cases he : p + n = s.size
    · have hat : ∀ d os, Calls Tryd.prog 10 #[.pointer (some ⟨b, 0, none⟩)] (Go.Sort.grow (redrawn wr d) os) fun e w' => e = .returned (.bool true) ∧ Below (Go.Sort.grow (redrawn wr d) os).heap.size (Go.Sort.grow (redrawn wr d) os) w' := fun d os => by
        have := atEnd_any (HS.out.keepB (below_regrown wr d os)) hs
        rw [decide_eq_true he] at this
        exact this
      obtain ⟨e1, e2⟩ := tk_end s k hn HA.out (fun h => by omega)
      have HT : Hid (∀ W, Below wr.heap.size wr W → ∀ v, v = .string (s.extract p (p + n)) → TkTo w b s p k F J (.returned v) W) := fun W hW v hv => by
        refine ⟨by rw [hv, e1], by rw [e1]; exact HS.out.keepB hW, HF.out.trans (Fr.of_below (F := fun _ => False) hW) (fun i hi => hi.elim), ?_⟩
        rw [e2]
        exact hJ _ _ _ HJ.out (Fr.of_below hW)
      have c0 := fun (d : Nat) (os : Array Obj) => HS.out.keepB (below_regrown wr d os) |>.c0
      have c1 := fun (d : Nat) (os : Array Obj) => HS.out.keepB (below_regrown wr d os) |>.c1
      clear HS HF HJ HA e1 e2 hle
      go_wp2_with fail
      refine wp_region_quiet_below (by kernel_rfl) (by kernel_rfl) ?_
      repeat (go_big_quiet_step (with_reducible exact Calls.regrown_of (hat _ _)))
      refine wpQuiet_nil ?_
      intro _ hw'
      obtain ⟨⟨dq, osq⟩, hw''⟩ := hw'
      subst hw''
      have hb := below_regrown wr dq osq
      have d0 := c0 dq osq
      have d1 := c1 dq osq
      clear c0 c1 hat
      generalize Go.Sort.grow (redrawn wr dq) osq = wz at *
      go_wp2_with fail
      have hpn : (p : Int) ≤ ((p + n : Nat) : Int) := by omega
      have hns : ((p + n : Nat) : Int) ≤ (s.size : Int) := by omega
      go_quiet (fail)
      rename Nat => nq
      go_wp2_with fail
      go_ret
      exact HT.out (wz.drewN nq) (hb.trans ⟨rfl, rfl, rfl, Nat.le_refl _, fun _ _ => rfl⟩) _ (by rw [he]; rfl)
    · have hlt : p + n < s.size := by omega
      have tl : ((p + n : Nat) : Int) < (s.size : Int) := by omega
      have hat := atEnd_any (HS.out.keepB (Below.refl _ _).drew) hs
      rw [decide_eq_false he] at hat
      have c0 := HS.out.c0
      have c1 := HS.out.c1
      have hc := fun W hJ' hF' => hg ((rest s p).take n) s[p + n] W hJ' hF'
      go_wp2_with fail
      go_region_held_law (fun w' => w'.cell? ⟨b, 0, none⟩ = some (.string s) ∧ w'.cell? ⟨b, 1, none⟩ = some (.int .i64 (p + n : Nat))) (first | exact ⟨c0, c1⟩ | exact ⟨S1.c0, S1.c1⟩ | exact ⟨S2.c0, S2.c1⟩) (first
        | (go_at_call 10; refine hat.mono ?_; rintro e w1 ⟨rfl, hb1⟩; have hb1 := Below.undrew hb1; have S1 := HS.out.keepB hb1)
        | (refine (hc w1 (hJ _ _ _ HJ.out (Fr.of_below hb1)) (HF.out.trans (Fr.of_below (F := fun _ => False) hb1) (fun i hi => hi.elim))).mono ?_; rintro e w2 ⟨rfl, hf2, hj2⟩; have S2 := S1.keep hf2 hFb))
      have HF2 : Hid (Fr w w2 (fun i => i = b ∨ F i)) := (HF.out.trans (Fr.of_below (F := fun _ => False) hb1) (fun i hi => hi.elim)).trans hf2 (fun i hi => Or.inl (Or.inr hi))
      have HS2 : Hid (Sc w2 b s (p + n)) := S2
      have HJ2 := Go.Proofs.YtifnmclidabkfaaDoor.Hid.mk' hj2
      have f1 := S2.fz
      clear hat hc hb1 hf2 hj2 S1 S2 c0 c1 HS HF HJ
      have d0 := HS2.out.c0
      have d1 := HS2.out.c1
      cases hkv : k s[p + n] with
      | true =>
        rw [hkv] at HJ2
        have HA2 : Hid (∀ j, j < n + 1 → ∀ h : p + j < s.size, k s[p + j] = true) := fun j hj h => by
          by_cases e : j = n
          · subst e; exact hkv
          · exact HA.out j (by omega) h
        have HS3 : Hid (Sc (w2.setCell ⟨b, 1, none⟩ (.int .i64 ((p : Int) + (n : Int) + 1))) b s (p + (n + 1))) := by
          have := HS2.out.to_ (q := p + (n + 1)) (by omega)
          rw [show ((p + (n + 1) : Nat) : Int) = (p : Int) + (n : Int) + 1 by omega] at this
          exact this
        have hfs := fr_set w2 b 1 (.int .i64 ((p : Int) + (n : Int) + 1))
        have HF3 : Hid (Fr w (w2.setCell ⟨b, 1, none⟩ (.int .i64 ((p : Int) + (n : Int) + 1))) (fun i => i = b ∨ F i)) := HF2.out.trans hfs (fun i hi => Or.inl (Or.inl hi))
        have HJ3 : Hid (J ((rest s p).take (n + 1)) (w2.setCell ⟨b, 1, none⟩ (.int .i64 ((p : Int) + (n : Int) + 1)))) := hJ _ _ _ (by rw [rest_tk s hlt]; exact HJ2.out) hfs
        clear HS2 HF2 HJ2 HA hfs hkv
        go_wp2_with fail
        go_roundg (s.size - (p + (n + 1)))
        case measure => omega
        case rel => exact ⟨n + 1, Nat.le_refl _, by omega, HS3, HF3, HJ3, HA2⟩
      | false =>
        rw [hkv] at HJ2
        obtain ⟨e1, e2⟩ := tk_end s k hn HA.out (fun h => hkv)
        have HT : Hid (∀ W, Below w2.heap.size w2 W → ∀ v, v = .string (s.extract p (p + n)) → TkTo w b s p k F J (.returned v) W) := fun W hW v hv => by
          refine ⟨by rw [hv, e1], by rw [e1]; exact HS2.out.keepB hW, HF2.out.trans (Fr.of_below (F := fun _ => False) hW) (fun i hi => hi.elim), ?_⟩
          rw [e2]
          exact hJ _ _ _ HJ2.out (Fr.of_below hW)
        clear HS2 HF2 HJ2 HA e1 e2 hle hkv
        go_wp2_with fail
        have hpn : (p : Int) ≤ ((p + n : Nat) : Int) := by omega
        have hns : ((p + n : Nat) : Int) ≤ (s.size : Int) := by omega
        go_quiet (fail)
        rename Nat => nq
        go_wp2_with fail
        go_ret
        exact HT.out (w2.drewN nq) ⟨rfl, rfl, rfl, Nat.le_refl _, fun _ _ => rfl⟩ _ rfl
end Go.Proofs.YtifnmclidabkfaaDoor
