/- Package wal: lay, settle, checkRegion, Format. -/
import Derived.Test.YtcjoolmlobjpbaaW6C
namespace Go.Proofs.Ytcjoolmlobjpbaa
open Go.RowKit Go.Maps
set_option linter.unusedVariables false
set_option linter.unusedSimpArgs false

theorem add_add (a : Addr) (i j : Nat) : (a.add i).add j = a.add (i + j) := by
  by_cases hi : i = 0
  · subst hi; simp [Addr.add]
  · by_cases hj : j = 0
    · subst hj; simp [Addr.add]
    · simp [Addr.add, hi, hj, Nat.add_assoc]
/-- A part of bytes. -/
theorem Bytes.part {w : World} {a a' : Addr} {m cap lo hi : Nat} {xs : List UInt8} (h : Bytes w (.slice (some a) m cap) xs) (hm : xs.length = m) (h1 : lo ≤ hi) (h2 : hi ≤ m) (ha : a' = a.add lo ∨ hi = lo) : Bytes w (.slice (some a') (hi - lo) (cap - lo)) ((xs.drop lo).take (hi - lo)) := by
  subst hm
  have hl : ((xs.drop lo).take (hi - lo)).length = hi - lo := by rw [List.length_take, List.length_drop]; omega
  rcases h with ⟨h, _⟩ | ⟨b, cap', hv, hc, h⟩
  · cases h
  · cases hv
    refine Or.inr ⟨a', cap - lo, by rw [hl], by rw [hl]; omega, fun j hj => ?_⟩
    rw [hl] at hj
    rcases ha with rfl | ha
    · rw [add_add, h (lo + j) (by omega), List.getElem_take, List.getElem_drop]
    · omega
theorem part_sec (fr : List UInt8) (k : Nat) : (fr.drop (min (k * 128) fr.length)).take (min (min (k * 128) fr.length + 128) fr.length - min (k * 128) fr.length) = (fr.drop (128 * k)).take 128 := by
  by_cases h : k * 128 ≤ fr.length
  · rw [Nat.min_eq_left h, Nat.mul_comm k 128]
    rw [Nat.mul_comm k 128] at h
    by_cases h2 : 128 * k + 128 ≤ fr.length
    · rw [Nat.min_eq_left h2]; congr 1; omega
    · rw [Nat.min_eq_right (by omega), List.take_of_length_le (by rw [List.length_drop]; omega), List.take_of_length_le (by rw [List.length_drop]; omega)]
  · rw [Nat.min_eq_right (a := k * 128) (b := fr.length) (by omega), List.drop_of_length_le (Nat.le_refl _), List.drop_of_length_le (by omega)]; simp
theorem full_part (fr : List UInt8) (k : Nat) : full ((fr.drop (min (k * 128) fr.length)).take (min (min (k * 128) fr.length + 128) fr.length - min (k * 128) fr.length)) = secOf fr k := by
  rw [part_sec]; rfl
/-- Where the laying stands. -/
structure LayMid (base : Nat) (w wr : World) (F F' : Nat → Prop) (p : Value) (n : Nat) (D : DS) (first : Int) (fr : List UInt8) (a k : Nat) : Prop where
  d : DiskAt base wr F' p n { D with now := layN D.now first fr a k, ws := D.ws ++ layW first fr D.safe a k }
  f : Fr w wr F
  o : ∀ i, F' i → F i ∨ w.heap.size ≤ i
theorem Bytes.none_len {w : World} {n cap : Nat} {xs : List UInt8} (h : Bytes w (.slice none n cap) xs) : n = 0 := by
  rcases h with ⟨h, _⟩ | ⟨a, c, h, _⟩
  · cases h; rfl
  · cases h
theorem Bytes.none_cap {w : World} {n cap : Nat} {xs : List UInt8} (h : Bytes w (.slice none n cap) xs) : cap = 0 := by
  rcases h with ⟨h, _⟩ | ⟨a, c, h, _⟩
  · cases h; rfl
  · cases h
theorem bytes_mt {w : World} {a : Addr} {n cap : Nat} {xs : List UInt8} (h1 : n = 0) (h : xs.length = 0) : Bytes w (.slice (some a) n cap) xs := by
  subst h1
  obtain rfl := List.eq_nil_of_length_eq_zero h
  exact Or.inr ⟨a, cap, rfl, Nat.zero_le _, fun j hj => by simp at hj⟩
theorem bytes_none {w : World} {n cap : Nat} {xs : List UInt8} (h1 : n = 0) (h2 : cap = 0) (h : xs.length = 0) : Bytes w (.slice none n cap) xs := by
  subst h1 h2
  exact Or.inl ⟨rfl, List.eq_nil_of_length_eq_zero h⟩
theorem fr_cell {w w' : World} {F : Nat → Prop} (hf : Fr w w' F) {g o : Nat} {v : Value} (hg : ¬ F g) (h : w.cell? ⟨g, o, none⟩ = some v) : w'.cell? ⟨g, o, none⟩ = some v := by
  have hlt := World.block_lt_of_cell? w _ h
  rw [World.cell?_of_block (hf.block g hlt hg)]; exact h
/-- One sector more. -/
theorem lay_step {base : Nat} {w wr : World} {F F' : Nat → Prop} {p : Value} {n : Nat} {D : DS} {first : Int} {fr : List UInt8} {a k : Nat} (h : LayMid base w wr F F' p n D first fr a k) (hak : a ≤ k) (hk : 0 ≤ first ∧ first + k < D.size) (hcnt : n + D.ws.length + (k - a) < 100000) (vb : Value) (s t : Nat) (hs : s = min (k * 128) fr.length) (ht : t = min (s + 128) fr.length) (wx : World) (hx : wx = wr ∨ wx = wr.drew) (hB : Bytes wr vb ((fr.drop s).take (t - s))) :
    Calls Try.prog 50 #[p, .int .i64 (first + k), vb] wx fun e w' => e = .returned (.int .i64 0) ∧ ∃ F1, Hid (LayMid base w w' F F1 p n D first fr a (k + 1)) ∧ Fr wr w' F' := by
  have hb : Below wr.heap.size wr wx := by
    rcases hx with rfl | rfl
    · exact Below.refl _ _
    · exact (Below.refl _ _).drew
  have hl : ((fr.drop s).take (t - s)).length ≤ 128 := by rw [List.length_take]; omega
  refine (write_any (h.d.keepB hb) (first + k) (by show _ ∧ _ < D.size; omega) vb _ (hB.keep hb) hl (by show n + (D.ws ++ layW first fr D.safe a k).length < 100000; rw [List.length_append, layW_len]; omega)).mono ?_
  rintro e w' ⟨he, F1, hD, hf, ho⟩
  have hf' : Fr wr w' F' := (Fr.of_below hb).trans hf (fun i hi => Or.inl hi)
  subst hs ht
  rw [full_part] at hD
  refine ⟨he, F1, ⟨?_, h.f.trans hf' h.o, fun i hi => ?_⟩, hf'⟩
  · have e1 : upd (layN D.now first fr a k) (first + k) (secOf fr k) = layN D.now first fr a (k + 1) := layN_succ _ _ _ _ _ hak
    have e2 : (D.ws ++ layW first fr D.safe a k) ++ [⟨first + k, secOf fr k, D.safe⟩] = D.ws ++ layW first fr D.safe a (k + 1) := by rw [layW_succ _ _ _ _ _ hak, List.append_assoc]
    rw [← e1, ← e2]
    exact hD
  · rcases ho i hi with h1 | h1
    · exact h.o i h1
    · right; have := h.f.size; have := hb.size; omega
set_option maxRecDepth 20000 in
set_option maxHeartbeats 20000000 in
theorem lay_any {base : Nat} {w : World} {F G : Nat → Prop} {p pl : Value} {n : Nat} {D : DS} {L : LS} (hD : DiskAt base w F p n D) (hL : LogAt base w G pl p L) (hd : ∀ k, F k → ¬ G k) (a b : Nat) (hb : b ≤ L.n) (ha : a ≤ L.n) (hsz : L.first + L.n ≤ D.size) (hcnt : n + D.ws.length + (b - a) < 100000) :
    Calls Try.prog 37 #[pl, .int .i64 a, .int .i64 b] w fun e w' => e = .returned (.tuple #[]) ∧ ∃ F', DiskAt base w' F' p n (D.lay L.first L.fr a b) ∧ Fr w w' F ∧ ∀ k, F' k → F k ∨ w.heap.size ≤ k := by
  obtain ⟨g, vf, vr, rfl, hL⟩ := hL
  obtain ⟨dg, _, _, _, rfl, _⟩ := id hD
  have HD : Hid (DiskAt base w F (.pointer (some ⟨dg, 0, none⟩)) n D) := hD
  have HL : Hid (LogIn base w G g (.pointer (some ⟨dg, 0, none⟩)) vf vr L) := hL
  obtain ⟨aof, capf, rfl, hcf, hcells⟩ := hL.fr.toBytes.form
  have hlen := hL.len
  have hfirst := hL.first
  have hn := hL.n
  clear hD hL
  go_enter Try.func37, Try.ntmps37
  go_wp2
  go_loopw [6] (fun i wr => ∃ (k : Nat) (F' : Nat → Prop), a ≤ k ∧ (k ≤ b ∨ k = a) ∧ i = .int .i64 k ∧ Hid (LayMid base w wr F F' (.pointer (some ⟨dg, 0, none⟩)) n D L.first L.fr a k)) (fun i _ => b - (intOf i).toNat)
  case atStart => exact ⟨a, F, Nat.le_refl _, Or.inr rfl, rfl, ⟨by rw [layN_nil _ _ _ _ _ (Nat.le_refl _), layW_nil _ _ _ _ _ (Nat.le_refl _), List.append_nil]; exact HD.out, Fr.refl _ _, fun i hi => Or.inl hi⟩⟩
  case round =>
    obtain ⟨k, F', hak, hkb, rfl, HM⟩ := hrel
    have hLr := HL.out.keep HM.out.f (fun i hi hf => hd i hf hi)
    obtain ⟨c0, c1, c2, c3, c4, c5, fz⟩ := cells6 hLr.hg
    have hByr := hLr.fr.toBytes
    have HBy : Hid (Bytes wr (.slice aof L.fr.length capf) L.fr) := hByr
    have hdj : ∀ i, F' i → ¬ G i := fun i hi hg => by
      rcases HM.out.o i hi with h | h
      · exact hd i h hg
      · have := (HL.out.lo i hg).2; omega
    clear hLr hcells hByr
    by_cases hlt : k < b
    · have hstep := lay_step HM.out hak (by omega) (by omega)
      have HW : Hid (∀ vb s t, s = min (k * 128) L.fr.length → t = min (s + 128) L.fr.length → ∀ wx, (wx = wr ∨ wx = wr.drew) → Bytes wr vb ((L.fr.drop s).take (t - s)) → Calls Try.prog 50 #[.pointer (some ⟨dg, 0, none⟩), .int .i64 (L.first + k), vb] wx fun e w' => e = .returned (.int .i64 0) ∧ ∃ F1, Hid (LayMid base w w' F F1 (.pointer (some ⟨dg, 0, none⟩)) n D L.first L.fr a (k + 1)) ∧ Fr wr w' F') := hstep
      clear hstep
      have hwrap : IntKind.i64.wrap (L.first + (k : Int)) = L.first + k := by rw [IntKind.wrap_i64]; omega
      obtain ⟨m, hm⟩ : ∃ m, L.fr.length = m := ⟨_, rfl⟩
      simp only [hm] at hcf hlen c3 HBy HW HL
      have Hm : Hid (L.fr.length = m) := hm
      clear hm
      have hng : ¬ F' g := fun h => hdj g h HL.out.gg
      by_cases hA : k * 128 ≤ m
      · obtain ⟨s, hs⟩ : ∃ s : Nat, (k : Int) * 128 = (s : Int) := ⟨k * 128, by omega⟩
        by_cases hB : s + 128 ≤ m
        · obtain ⟨t, ht⟩ : ∃ t : Nat, (s : Int) + 128 = (t : Int) := ⟨s + 128, by omega⟩
          rcases aof with _ | af
          · exfalso; have := HBy.out.none_len; omega
          · by_cases hcap : capf = s
            · exfalso; omega
            · have hcap' : ¬ ((capf : Int) = ((s : Nat) : Int)) := by omega
              go_wp2
              go_region_held_law (fun w' => w'.cell? ⟨g, 0, none⟩ = some (.pointer (some ⟨dg, 0, none⟩)) ∧ w'.cell? ⟨g, 1, none⟩ = some (.int .i64 L.first) ∧ w'.cell? ⟨g, 3, none⟩ = some (.slice (some af) m capf)) (first | exact ⟨c0, c1, c3⟩ | exact ⟨fr_cell hf1 hng c0, fr_cell hf1 hng c1, fr_cell hf1 hng c3⟩) (first | (go_at_call 50; refine (HW.out _ (s) (t) (by omega) (by omega) _ (by first | exact Or.inl rfl | exact Or.inr rfl) (by first | exact HBy.out.part Hm.out (by omega) (by omega) (Or.inl rfl) | exact bytes_mt (by omega) (by rw [List.length_take]; omega) | exact bytes_none (by omega) (by omega) (by rw [List.length_take]; omega) | (trace_state; fail))).mono ?_; rintro e w1 ⟨rfl, F1, hm1, hf1⟩))
              go_wp2
              go_roundw
              case rel => exact ⟨k + 1, F1, by omega, Or.inl (by omega), by go_num, hm1⟩
              case measure => simp [intOf]; omega
        · have ht : ¬ ((s : Int) + 128 ≤ (m : Int)) := by omega
          rcases aof with _ | af
          · obtain rfl : m = 0 := HBy.out.none_len
            obtain rfl : capf = 0 := HBy.out.none_cap
            obtain rfl : s = 0 := by omega
            go_wp2
            go_region_held_law (fun w' => w'.cell? ⟨g, 0, none⟩ = some (.pointer (some ⟨dg, 0, none⟩)) ∧ w'.cell? ⟨g, 1, none⟩ = some (.int .i64 L.first) ∧ w'.cell? ⟨g, 3, none⟩ = some (.slice none 0 0)) (first | exact ⟨c0, c1, c3⟩ | exact ⟨fr_cell hf1 hng c0, fr_cell hf1 hng c1, fr_cell hf1 hng c3⟩) (first | (go_at_call 50; refine (HW.out _ (0) (0) (by omega) (by omega) _ (by first | exact Or.inl rfl | exact Or.inr rfl) (by first | exact bytes_mt (by omega) (by rw [List.length_take]; omega) | exact bytes_none (by omega) (by omega) (by rw [List.length_take]; omega) | (trace_state; fail))).mono ?_; rintro e w1 ⟨rfl, F1, hm1, hf1⟩))
            go_wp2
            go_roundw
            case rel => exact ⟨k + 1, F1, by omega, Or.inl (by omega), by go_num, hm1⟩
            case measure => simp [intOf]; omega
          · by_cases hcap : capf = s
            · obtain rfl : capf = m := by omega
              obtain rfl : s = capf := by omega
              go_wp2
              go_region_held_law (fun w' => w'.cell? ⟨g, 0, none⟩ = some (.pointer (some ⟨dg, 0, none⟩)) ∧ w'.cell? ⟨g, 1, none⟩ = some (.int .i64 L.first) ∧ w'.cell? ⟨g, 3, none⟩ = some (.slice (some af) s s)) (first | exact ⟨c0, c1, c3⟩ | exact ⟨fr_cell hf1 hng c0, fr_cell hf1 hng c1, fr_cell hf1 hng c3⟩) (first | (go_at_call 50; refine (HW.out _ (s) (s) (by omega) (by omega) _ (by first | exact Or.inl rfl | exact Or.inr rfl) (by first | exact bytes_mt (by omega) (by rw [List.length_take]; omega) | exact bytes_none (by omega) (by omega) (by rw [List.length_take]; omega) | (trace_state; fail))).mono ?_; rintro e w1 ⟨rfl, F1, hm1, hf1⟩))
              go_wp2
              go_roundw
              case rel => exact ⟨k + 1, F1, by omega, Or.inl (by omega), by go_num, hm1⟩
              case measure => simp [intOf]; omega
            · have hcap' : ¬ ((capf : Int) = ((s : Nat) : Int)) := by omega
              go_wp2
              go_region_held_law (fun w' => w'.cell? ⟨g, 0, none⟩ = some (.pointer (some ⟨dg, 0, none⟩)) ∧ w'.cell? ⟨g, 1, none⟩ = some (.int .i64 L.first) ∧ w'.cell? ⟨g, 3, none⟩ = some (.slice (some af) m capf)) (first | exact ⟨c0, c1, c3⟩ | exact ⟨fr_cell hf1 hng c0, fr_cell hf1 hng c1, fr_cell hf1 hng c3⟩) (first | (go_at_call 50; refine (HW.out _ (s) (m) (by omega) (by omega) _ (by first | exact Or.inl rfl | exact Or.inr rfl) (by first | exact HBy.out.part Hm.out (by omega) (by omega) (Or.inl rfl) | exact bytes_mt (by omega) (by rw [List.length_take]; omega) | exact bytes_none (by omega) (by omega) (by rw [List.length_take]; omega) | (trace_state; fail))).mono ?_; rintro e w1 ⟨rfl, F1, hm1, hf1⟩))
              go_wp2
              go_roundw
              case rel => exact ⟨k + 1, F1, by omega, Or.inl (by omega), by go_num, hm1⟩
              case measure => simp [intOf]; omega
      · have hs : ¬ ((k : Int) * 128 ≤ (m : Int)) := by omega
        have ht : ¬ ((m : Int) + 128 ≤ (m : Int)) := by omega
        rcases aof with _ | af
        · obtain rfl : m = 0 := HBy.out.none_len
          obtain rfl : capf = 0 := HBy.out.none_cap
          go_wp2
          go_region_held_law (fun w' => w'.cell? ⟨g, 0, none⟩ = some (.pointer (some ⟨dg, 0, none⟩)) ∧ w'.cell? ⟨g, 1, none⟩ = some (.int .i64 L.first) ∧ w'.cell? ⟨g, 3, none⟩ = some (.slice none 0 0)) (first | exact ⟨c0, c1, c3⟩ | exact ⟨fr_cell hf1 hng c0, fr_cell hf1 hng c1, fr_cell hf1 hng c3⟩) (first | (go_at_call 50; refine (HW.out _ (0) (0) (by omega) (by omega) _ (by first | exact Or.inl rfl | exact Or.inr rfl) (by first | exact bytes_mt (by omega) (by rw [List.length_take]; omega) | exact bytes_none (by omega) (by omega) (by rw [List.length_take]; omega) | (trace_state; fail))).mono ?_; rintro e w1 ⟨rfl, F1, hm1, hf1⟩))
          go_wp2
          go_roundw
          case rel => exact ⟨k + 1, F1, by omega, Or.inl (by omega), by go_num, hm1⟩
          case measure => simp [intOf]; omega
        · by_cases hcap : capf = m
          · obtain rfl : capf = m := by omega
            go_wp2
            go_region_held_law (fun w' => w'.cell? ⟨g, 0, none⟩ = some (.pointer (some ⟨dg, 0, none⟩)) ∧ w'.cell? ⟨g, 1, none⟩ = some (.int .i64 L.first) ∧ w'.cell? ⟨g, 3, none⟩ = some (.slice (some af) capf capf)) (first | exact ⟨c0, c1, c3⟩ | exact ⟨fr_cell hf1 hng c0, fr_cell hf1 hng c1, fr_cell hf1 hng c3⟩) (first | (go_at_call 50; refine (HW.out _ (capf) (capf) (by omega) (by omega) _ (by first | exact Or.inl rfl | exact Or.inr rfl) (by first | exact bytes_mt (by omega) (by rw [List.length_take]; omega) | exact bytes_none (by omega) (by omega) (by rw [List.length_take]; omega) | (trace_state; fail))).mono ?_; rintro e w1 ⟨rfl, F1, hm1, hf1⟩))
            go_wp2
            go_roundw
            case rel => exact ⟨k + 1, F1, by omega, Or.inl (by omega), by go_num, hm1⟩
            case measure => simp [intOf]; omega
          · have hcap' : ¬ ((capf : Int) = ((m : Nat) : Int)) := by omega
            go_wp2
            go_region_held_law (fun w' => w'.cell? ⟨g, 0, none⟩ = some (.pointer (some ⟨dg, 0, none⟩)) ∧ w'.cell? ⟨g, 1, none⟩ = some (.int .i64 L.first) ∧ w'.cell? ⟨g, 3, none⟩ = some (.slice (some af) m capf)) (first | exact ⟨c0, c1, c3⟩ | exact ⟨fr_cell hf1 hng c0, fr_cell hf1 hng c1, fr_cell hf1 hng c3⟩) (first | (go_at_call 50; refine (HW.out _ (m) (m) (by omega) (by omega) _ (by first | exact Or.inl rfl | exact Or.inr rfl) (by first | exact bytes_mt (by omega) (by rw [List.length_take]; omega) | exact bytes_none (by omega) (by omega) (by rw [List.length_take]; omega) | (trace_state; fail))).mono ?_; rintro e w1 ⟨rfl, F1, hm1, hf1⟩))
            go_wp2
            go_roundw
            case rel => exact ⟨k + 1, F1, by omega, Or.inl (by omega), by go_num, hm1⟩
            case measure => simp [intOf]; omega
    · have HF : Hid (LayMid base w wr F F' (.pointer (some ⟨dg, 0, none⟩)) n D L.first L.fr a b ∧ b - a = k - a) := by
        rcases hkb with h | h
        · obtain rfl : k = b := by omega
          exact ⟨HM.out, rfl⟩
        · subst h
          have hm := HM.out
          refine ⟨⟨?_, hm.f, hm.o⟩, by omega⟩
          rw [layN_nil _ _ _ _ _ (by omega), layW_nil _ _ _ _ _ (by omega)]
          have := hm.d
          rwa [layN_nil _ _ _ _ _ (by omega), layW_nil _ _ _ _ _ (by omega)] at this
      go_wp2_with fail
      refine (sync_any HF.out.1.d).mono ?_
      rintro e w1 ⟨rfl, hD1, hf1⟩
      have hE : ({ D with now := layN D.now L.first L.fr a b, ws := D.ws ++ layW L.first L.fr D.safe a b, safe := (D.ws ++ layW L.first L.fr D.safe a b).length } : DS) = D.lay L.first L.fr a b := by
        unfold DS.lay
        rw [List.length_append, layW_len]
      have hD2 : DiskAt base w1 F' (.pointer (some ⟨dg, 0, none⟩)) n (D.lay L.first L.fr a b) := by
        rw [← hE]; exact hD1
      have hFF := HF.out.1.f.trans hf1 HF.out.1.o
      clear hD1 hE hf1
      go_wp2
      exact bodyPost_end (v := .tuple #[]) (by simp [results, Try.results37, go_sem]) rfl ⟨rfl, F', hD2, hFF, HF.out.1.o⟩
end Go.Proofs.Ytcjoolmlobjpbaa
