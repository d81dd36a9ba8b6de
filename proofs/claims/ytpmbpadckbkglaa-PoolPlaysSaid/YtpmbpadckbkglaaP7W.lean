/- The pool: Flush, walked. -/
import Derived.Test.YtpmbpadckbkglaaP7V
import Derived.Test.YtpmbpadckbkglaaP7U
namespace Go.Proofs.Ytpmbpadckbkglaa
open Go.RowKit Go.Maps
set_option linter.unusedVariables false
set_option linter.unusedSimpArgs false

theorem take_not_mem {l : List Int} (h : l.Nodup) {m : Nat} (hm : m < l.length) : l[m] ∉ l.take m := by
  intro hx
  obtain ⟨i, hi, he⟩ := List.getElem_of_mem hx
  rw [List.getElem_take] at he
  rw [List.length_take] at hi
  have := (List.getElem_inj h).1 he
  omega
/-- Where the cleaning stands. -/
structure CleanSt (base : Nat) (w wz : World) (F G : Nat → Prop) (g : Nat) (dp : Value) (b : Nat) (blk : Int → Nat) (cv : Int → Value) (n : Nat) (P : PS) (D : DS) (l : List Int) (G' : Nat → Prop) : Prop where
  pool : PoolIn base wz F g dp b blk cv (P.cleanL l)
  disk : DiskAt base wz G' dp n (D.cleanL P l)
  f : Fr w wz (fun i => F i ∨ G i)
  o : ∀ i, G' i → G i ∨ w.heap.size ≤ i
theorem CleanSt.step {base : Nat} {w wz : World} {F G G' : Nat → Prop} {g b n : Nat} {dp : Value} {blk : Int → Nat} {cv : Int → Value} {P : PS} {D : DS} {l : List Int} (h : CleanSt base w wz F G g dp b blk cv n P D l G') (hok : POk P) (hfit : P.first + 16 * P.pages ≤ D.size) (hF : ∀ i, F i → i < w.heap.size ∧ ¬ G i) {k : Int} (hk : k ∈ P.keys) (hl : k ∉ l) (hcnt : n + D.ws.length + 16 * l.length + 16 < 100000) :
    Calls Try.prog 40 #[.pointer (some ⟨g, 0, none⟩), .int .i64 k] wz fun e w' => e = .returned (.tuple #[]) ∧ ∃ G1, Hid (CleanSt base w w' F G g dp b blk cv n P D (l ++ [k]) G1) ∧ Fr wz w' (fun i => F i ∨ G' i) := by
  have hws := cleanL_ws D P l
  refine (clean_any h.pool h.disk (fun i hi hg => ?_) (hok.cleanL l) (by rw [cleanL_size]; exact hfit) hk (by omega)).mono ?_
  · rcases h.o i hg with h1 | h1
    · exact (hF i hi).2 h1
    · have := (hF i hi).1; omega
  rintro e w' ⟨he, hP, G1, hD, hf, ho⟩
  have hfk : (P.cleanL l).fr k = P.fr k := by unfold PS.cleanL; simp [hl]
  refine ⟨he, G1, ⟨?_, ?_, h.f.trans hf (fun i hi => ?_), fun i hi => ?_⟩, hf⟩
  · rw [← P.cleanL_snoc l k hl]; exact hP
  · rw [cleanL_snoc, ← cleaned_congr _ P (P.cleanL l) k rfl hfk]; exact hD
  · rcases hi with hi | hi
    · exact Or.inl (Or.inl hi)
    · rcases h.o i hi with h1 | h1
      · exact Or.inl (Or.inr h1)
      · exact Or.inr h1
  · rcases ho i hi with h1 | h1
    · exact h.o i h1
    · exact Or.inr (Nat.le_trans h.f.size h1)
set_option maxRecDepth 20000 in
set_option maxHeartbeats 1000000 in
theorem flush_any {base : Nat} {w : World} {F G : Nat → Prop} {p dp : Value} {n : Nat} {P : PS} {D : DS} (h : PD base w F G p dp n P D) (hcnt : n + D.ws.length + 16 * P.keys.length + 16 < 100000) :
    Calls Try.prog 23 #[p] w fun e w' => FlushOut base w F G p dp n P D e w' := by
  obtain ⟨g, b, blk, cv, rfl, hP⟩ := h.pool
  have p4 := hP.cells.c4
  have HP : Hid (PoolIn base w F g dp b blk cv P) := hP
  have H : Hid (PD base w F G (.pointer (some ⟨g, 0, none⟩)) dp n P D) := h
  have HM : Hid (FMap w b P.keys blk) := hP.hm
  have hkl : P.keys.length ≤ 64 := by have := h.ok.len; have := h.ok.size; omega
  clear h hP
  go_enter Try.func23, Try.ntmps23
  go_wp2_with (first
    | (at_range; refine wp_rangeF _ rfl _ rfl b P.keys blk rfl HM.out ?_; intro w0 cnt0 hrg0 hb0 hs0)
    | go_in)
  have HR0 : Hid (FRange w0 b w.heap.size P.keys blk (fun k => decide (k ∈ P.keys)) cnt0) := hrg0
  clear hrg0 p4
  go_frame
  go_loopw [4] (fun _ wr => ∃ (left : Int → Bool) (cnt : Nat), Hid (FRange wr b w.heap.size P.keys blk left cnt) ∧ Below w.heap.size w wr ∧ Hid (∀ k ∈ P.keys, left k = false → beh P.safe (P.fr k) = false) ∧ w.heap.size < wr.heap.size)
    (fun _ wr => wr.rangeLeft b w.heap.size)
  case atStart => exact ⟨_, _, HR0, hb0, fun k hk hl => by (simp at hl; exact absurd hk hl), by omega⟩
  case round =>
    obtain ⟨left, cnt, HR, hb, HB, hsz⟩ := hrel
    clear HR0 hb0 hs0
    go_wp2_with (first
      | (at_next; refine wp_nextF _ rfl _ rfl b w.heap.size P.keys blk left cnt rfl HR.out ?_ ?_)
      | go_in)
    · intro hl0
      have HB' : Hid (∀ k ∈ P.keys, beh P.safe (P.fr k) = false) := fun k hk => HB.out k hk (hl0 k)
      have HPr : Hid (PD base wr F G (.pointer (some ⟨g, 0, none⟩)) dp n P D) := H.out.keepB hb
      clear hl0 HB HR
      go_wp2_with fail
      refine (pd_held HPr.out).mono ?_
      rintro e w6 ⟨lv, rfl, hrow, hb6⟩
      have hlo := own_range (c := fun k : Int => [Value.int .i64 k]) (n := 1) (fun x _ => rfl) (base := wr.heap.size) (w := w6) (e := 3) (v := lv) (l := P.keys) (by
        have e : P.keys.flatMap (fun k : Int => [Value.int .i64 k]) = P.keys.map (Value.int .i64) := by
          induction P.keys with
          | nil => rfl
          | cons x xs ih => rw [List.flatMap_cons, ih]; rfl
        rw [e]; exact hrow)
      have HI : Hid ((lv = .slice none 0 0 ∧ P.keys = []) ∨ ∃ gl cap, lv = .slice (some ⟨gl, 0, none⟩) P.keys.length cap ∧ P.keys.length ≤ cap ∧ wr.heap.size ≤ gl ∧ gl < w6.heap.size ∧ ∀ k (hk : k < P.keys.length), w6.rangeAt gl (k * 1) [Value.int .i64 P.keys[k]]) := hlo
      have hb06 := hb.trans (hb6.mono hb.size)
      have HP6 : Hid (PoolIn base w6 F g dp b blk cv P) := HP.out.keepB hb06
      have HD6 : Hid (DiskAt base w6 G dp n D) := H.out.disk.keepB hb06
      have hFl : ∀ i, F i → i < w6.heap.size ∧ ¬ G i := fun i hi => ⟨(HP6.out.lo i hi).2, H.out.dis i hi⟩
      have HFl : Hid (∀ i, F i → i < w6.heap.size ∧ ¬ G i) := hFl
      have hG0 : ∀ i, G i → i < w.heap.size := fun i hi => (H.out.disk.lo i hi).2
      have hF0 : ∀ i, F i → i < w.heap.size := fun i hi => (HP.out.lo i hi).2
      have HGF : Hid (∀ i, F i ∨ G i → i < w.heap.size) := fun i hi => by rcases hi with hi | hi; exact hF0 i hi; exact hG0 i hi
      have hsz6 : w.heap.size < w6.heap.size := Nat.lt_of_lt_of_le hsz hb6.size
      clear hlo hrow hFl hG0 hF0 HPr
      obtain ⟨ao, cap, hlv, hcp, hcl⟩ : ∃ ao cap, lv = .slice ao P.keys.length cap ∧ P.keys.length ≤ cap ∧ Hid (P.keys = [] ∨ ∃ gl, ao = some ⟨gl, 0, none⟩ ∧ wr.heap.size ≤ gl ∧ gl < w6.heap.size ∧ ∀ k (hk : k < P.keys.length), w6.cell? ⟨gl, k, none⟩ = some (.int .i64 P.keys[k])) := by
        rcases HI.out with ⟨h1, h2⟩ | ⟨gl, cap, h1, h2, h3, h4, h5⟩
        · exact ⟨none, 0, by rw [h1, h2]; rfl, by rw [h2]; exact Nat.le_refl _, Or.inl h2⟩
        · refine ⟨_, cap, h1, h2, Or.inr ⟨gl, rfl, h3, h4, fun k hk => ?_⟩⟩
          have := h5 k hk 0 _ rfl
          simpa using this
      subst hlv
      clear HI
      go_wp2_with fail
      go_loopw [24] (fun iv wz => ∃ (m : Nat) (G' : Nat → Prop), m ≤ P.keys.length ∧ iv = .int .i64 m ∧ Hid (CleanSt base w6 wz F G g dp b blk cv n P D (P.keys.take m) G')) (fun iv _ => P.keys.length - (intOf iv).toNat)
      case atStart => exact ⟨0, G, Nat.zero_le _, rfl, ⟨by rw [List.take_zero, PS.cleanL_nil]; exact HP6.out, HD6.out, Fr.refl _ _, fun i hi => Or.inl hi⟩⟩
      case round =>
        obtain ⟨m, G', hm, rfl, HS⟩ := hrel
        by_cases hlt : m < P.keys.length
        · rcases hcl.out with h0 | ⟨gl, rfl, hgl1, hgl2, hI⟩
          · rw [h0] at hlt; simp at hlt
          have ci := fr_cell HS.out.f (fun h => by have := HGF.out gl h; omega) (hI m hlt)
          have hstep := HS.out.step H.out.ok H.out.fit HFl.out (List.getElem_mem hlt) (take_not_mem H.out.ok.rise.nodup hlt) (by rw [List.length_take]; omega)
          rw [← List.take_succ_eq_append_getElem hlt] at hstep
          have HSt : Hid (Calls Try.prog 40 #[.pointer (some ⟨g, 0, none⟩), .int .i64 P.keys[m]] _ fun e w' => e = .returned (.tuple #[]) ∧ ∃ G1, Hid (CleanSt base w6 w' F G g dp b blk cv n P D (P.keys.take (m + 1)) G1) ∧ Fr _ w' (fun i => F i ∨ G' i)) := hstep
          clear hstep hI
          generalize P.keys[m] = Y at *
          go_wp2_with fail
          refine HSt.out.mono ?_
          rintro e w8 ⟨rfl, G1, H8, hf8⟩
          clear HSt
          go_wp2
          go_roundw
          case rel => exact ⟨m + 1, G1, by omega, by first | go_num | (congr 1; omega), H8⟩
          case measure => simp [intOf]; omega
        · obtain rfl : m = P.keys.length := by omega
          have hcs := HS.out
          rw [List.take_of_length_le (Nat.le_refl _)] at hcs
          have hO : ∀ wz, CleanSt base w6 wz F G g dp b blk cv n P D P.keys G' → FlushOut base w F G (.pointer (some ⟨g, 0, none⟩)) dp n P D (.returned (.int .i64 0)) wz := fun wz hcs => by
            refine .ok rfl HB'.out ⟨F, G', ⟨⟨g, b, blk, cv, rfl, hcs.pool⟩, hcs.disk, fun i hi hg => ?_, H.out.ok.cleanL _, by rw [cleanL_size]; exact H.out.fit⟩, (Fr.of_below hb06).trans hcs.f (fun i hi => Or.inl hi), fun i hi => Or.inl hi, fun i hi => ?_⟩
            · rcases hcs.o i hg with h1 | h1
              · exact (HFl.out i hi).2 h1
              · have := (HFl.out i hi).1; omega
            · rcases hcs.o i hi with h1 | h1
              · exact Or.inl h1
              · exact Or.inr (by omega)
          have hO2 := hO _ hcs
          clear hO hcs HS
          go_wp2
          go_ret
          exact hO2
    · intro x w1 cnt1 hlx hx hxr hxr2 hrg1 hlt hbr hf1 hen
      have HR1 : Hid (FRange w1 b w.heap.size P.keys blk (fun z => left z && decide (z ≠ x)) cnt1) := by show FRange _ _ _ _ _ _ _; simpa using hrg1
      have hb1 : Below w.heap.size w w1 := hb.trans hbr
      have hsz1 : w.heap.size < w1.heap.size := Nat.lt_of_lt_of_le hsz hbr.size
      have HLT : Hid (cnt1 < wr.rangeLeft b w.heap.size) := by have := HR.out.left_eq; show _ < _; omega
      have hWx := behind_any (HP.out.keepB hb1) hx
      clear hrg1 hbr hf1 hlt HM HR
      cases hwt : beh P.safe (P.fr x) with
      | true =>
        rw [hwt] at hWx
        go_wp2_with (first | (go_at_call 39; refine hWx.mono ?_; rintro e w2 ⟨rfl, hb2⟩))
        go_ret
        exact .behind rfl ⟨x, hx, hwt⟩ (hb1.trans (hb2.mono hb1.size))
      | false =>
        rw [hwt] at hWx
        go_wp2_with (first | (go_at_call 39; refine hWx.mono ?_; rintro e w2 ⟨rfl, hb2⟩; have HR2 : Hid (FRange w2 b w.heap.size P.keys blk (fun z => left z && decide (z ≠ x)) cnt1) := HR1.out.below hb2))
        go_roundw
        case rel => exact ⟨_, cnt1, HR2, hb1.trans (hb2.mono hb1.size), fun k hk hl => by
          by_cases e : k = x
          · rw [e]; exact hwt
          · exact HB.out k hk (by simpa [e] using hl), Nat.lt_of_lt_of_le hsz1 hb2.size⟩
        case measure => rw [HR2.out.left_eq]; exact HLT.out
end Go.Proofs.Ytpmbpadckbkglaa
