/- The program's text. -/
import Derived.Test.YtifnmclidabkfaaDoorL13OB
namespace Go.Proofs.YtifnmclidabkfaaDoor
open Go.RowKit
set_option linter.unusedVariables false
set_option linter.unusedSimpArgs false

/-- A truth in a box. -/
def BoxT (w : World) (q : Nat) (pl : Bool) : Prop := w.heap[q]? = some (.cells #[.bool pl] 4 (0, 0))
theorem BoxT.cell {w : World} {q : Nat} {pl : Bool} (h : BoxT w q pl) : w.cell? ⟨q, 0, none⟩ = some (.bool pl) := by rw [cell_of_row w q 0 _ _ _ h]; rfl
theorem BoxT.fz {w : World} {q : Nat} {pl : Bool} (h : BoxT w q pl) : w.frozen? ⟨q, 0, none⟩ = false := frozen_row h 0
theorem BoxT.set {w : World} {q : Nat} {pl : Bool} (h : BoxT w q pl) (u : Bool) : BoxT (w.setCell ⟨q, 0, none⟩ (.bool u)) q u := by
  unfold BoxT
  rw [heap_setCell_same w q 0 _ _ _ h]
  rfl
theorem BoxT.lt {w : World} {q : Nat} {pl : Bool} (h : BoxT w q pl) : q < w.heap.size := (Array.getElem?_eq_some_iff.1 h).1
theorem isTx_of (c : UInt8) : isTx c = (decide ((32 : Int) ≤ c.toNat) && decide ((c.toNat : Int) ≤ 126)) := by
  have : ∀ n : Fin 256, isTx (UInt8.ofNat n.val) = (decide ((32 : Int) ≤ (UInt8.ofNat n.val).toNat) && decide (((UInt8.ofNat n.val).toNat : Int) ≤ 126)) := by decide +kernel
  have h := this ⟨c.toNat, c.toNat_lt⟩
  simpa only [UInt8.ofNat_toNat] using h
set_option maxHeartbeats 1000000 in
theorem until_any {w : World} {q : Nat} {pl : Bool} (h : BoxT w q pl) (c : UInt8) : Calls Tryd.prog 29 #[.int .u8 c.toNat, .pointer (some ⟨q, 0, none⟩)] w fun e w' => e = .returned (.bool (c != 39)) ∧ Fr w w' (fun i => i = q) ∧ BoxT w' q (if (c != 39) then pl && isTx c else pl) := by
  have c0 := h.cell
  have f0 := h.fz
  by_cases hc : c = 39
  · subst hc
    have HB := Go.Proofs.YtifnmclidabkfaaDoor.Hid.mk' h
    clear h
    show Calls _ _ #[.int .u8 39, _] _ _
    go_enter Tryd.func29, Tryd.ntmps29
    go_wp2
    go_ret
    exact ⟨rfl, Fr.refl _ _, HB.out⟩
  · have hne : (c != 39) = true := by simpa using hc
    have hx : ¬ (c.toNat : Int) = 39 := fun e => hc ((u8_eq (n := 39) (by omega)).1 e)
    have hx' : ((c.toNat : Int) == 39) = false := by simpa using hx
    have hi := isTx_of c
    rw [hne]
    simp only [if_true]
    have HB : Hid (∀ u, BoxT (w.setCell ⟨q, 0, none⟩ (.bool u)) q u) := fun u => h.set u
    have HF : Hid (∀ u, Fr w (w.setCell ⟨q, 0, none⟩ (.bool u)) (fun i => i = q)) := fun u => fr_set w q 0 (.bool u)
    rw [hi]
    clear h hc hne hi
    generalize (c.toNat : Int) = x at *
    by_cases h1 : 32 ≤ x <;> by_cases h2 : x ≤ 126
    · rw [decide_eq_true h1, decide_eq_true h2]
      cases pl
      all_goals
        simp only [Bool.and_true, Bool.and_false, Bool.true_and, Bool.false_and]
        go_enter Tryd.func29, Tryd.ntmps29
        go_wp2
        go_ret
        exact ⟨rfl, HF.out _, HB.out _⟩
    · rw [decide_eq_true h1, decide_eq_false h2]
      cases pl
      all_goals
        simp only [Bool.and_true, Bool.and_false, Bool.true_and, Bool.false_and]
        go_enter Tryd.func29, Tryd.ntmps29
        go_wp2
        go_ret
        exact ⟨rfl, HF.out _, HB.out _⟩
    · rw [decide_eq_false h1, decide_eq_true h2]
      cases pl
      all_goals
        simp only [Bool.and_true, Bool.and_false, Bool.true_and, Bool.false_and]
        go_enter Tryd.func29, Tryd.ntmps29
        go_wp2
        go_ret
        exact ⟨rfl, HF.out _, HB.out _⟩
    · omega
theorem enters_un : Enters Tryd.prog 29 := enters_of Tryd.func29 (by kernel_rfl) rfl
/-- Where quoted stands, with what was said so far. -/
structure QB (w0 w : World) (b : Nat) (s : ByteArray) (c : Nat) (v : Value) (S : List UInt8) : Prop where
  sc : Sc w b s c
  bx : BoxT w w0.heap.size (S.all isTx)
  own : OwnB (w0.heap.size + 1) w v S
  fr : Fr w0 w (fun i => i = b)
  sz : w0.heap.size + 1 ≤ w.heap.size
  lb : b < w0.heap.size
theorem QB.keepB {w0 w w' : World} {b : Nat} {s : ByteArray} {c : Nat} {v : Value} {S : List UInt8} (h : QB w0 w b s c v S) (hb : Below w.heap.size w w') : QB w0 w' b s c v S :=
  ⟨h.sc.keepB hb, (hb.block _ h.bx.lt).trans h.bx, own_of_block h.own (fun k hk => hb.block k (World.ownsRow.lt h.own k hk).2), h.fr.trans (Fr.of_below (F := fun _ => False) hb) (fun i hi => hi.elim), Nat.le_trans h.sz hb.size, h.lb⟩
theorem QB.app {w0 w w' : World} {b : Nat} {s : ByteArray} {c : Nat} {v v' : Value} {S S' : List UInt8} (h : QB w0 w b s c v S) (hb : Below (w0.heap.size + 1) w w') (ho : OwnB (w0.heap.size + 1) w' v' S') (ha : S'.all isTx = S.all isTx) : QB w0 w' b s c v' S' := by
  have hlb := h.lb
  refine ⟨⟨(hb.block b (by omega)).trans h.sc.hh, h.sc.le⟩, ?_, ho, ?_, Nat.le_trans h.sz hb.size, h.lb⟩
  · rw [ha]
    exact (hb.block _ (by omega)).trans h.bx
  · exact ⟨hb.os.trans h.fr.os, hb.tape.trans h.fr.tape, hb.output.trans h.fr.output, Nat.le_trans h.fr.size hb.size, fun k hk hn => (hb.block k (by omega)).trans (h.fr.block k hk hn)⟩
theorem QB.at_ {w0 w : World} {b : Nat} {s : ByteArray} {c c' : Nat} {v : Value} {S : List UInt8} (h : QB w0 w b s c v S) (hc : c' ≤ s.size) : QB w0 (w.setCell ⟨b, 1, none⟩ (.int .i64 c')) b s c' v S := by
  have hlb := h.lb
  have hf := fr_set w b 1 (.int .i64 c')
  exact ⟨h.sc.to_ hc, (hf.block _ h.bx.lt (by omega)).trans h.bx, h.own.keepF hf (fun i hi => by omega), h.fr.trans hf (fun i hi => Or.inl hi), Nat.le_trans h.sz hf.size, h.lb⟩
/-- What taking up to the next sign comes to. -/
theorem QB.take {w0 w : World} {b : Nat} {s : ByteArray} {c : Nat} {v : Value} {S : List UInt8} (h : QB w0 w b s c v S) (hs : s.size ≤ 10000) :
    Calls Tryd.prog 14 #[.pointer (some ⟨b, 0, none⟩), .func (.func 29) #[] #[.pointer (some ⟨w0.heap.size, 0, none⟩)]] w fun e w' => TkTo w b s c (fun c => c != 39) (fun i => i = w0.heap.size) (fun l W => BoxT W w0.heap.size ((S ++ l).all isTx)) e w' := by
  have hlb := h.lb
  refine take_any h.sc hs _ _ _ enters_un _ (by omega) _ (by rw [List.append_nil]; exact h.bx) (fun l W W' hJ hF => (hF.block _ (BoxT.lt hJ) (by omega)).trans hJ) (fun l c W hJ hF => ?_)
  refine (until_any hJ c).mono ?_
  rintro e W' ⟨rfl, hf', hb'⟩
  refine ⟨rfl, hf', ?_⟩
  cases hc : (c != 39) with
  | true =>
    rw [hc] at hb'
    simp only [if_true] at hb' ⊢
    rw [← List.append_assoc, List.all_append]
    simpa using hb'
  | false =>
    rw [hc] at hb'
    exact hb'
/-- Behind taking, and behind appending what was taken. -/
theorem QB.taken {w0 w w2 w3 : World} {b : Nat} {s : ByteArray} {c : Nat} {v v' : Value} {S : List UInt8} {e : Ending} (h : QB w0 w b s c v S) (ht : TkTo w b s c (fun c => c != 39) (fun i => i = w0.heap.size) (fun l W => BoxT W w0.heap.size ((S ++ l).all isTx)) e w2)
    (hb : Below (w0.heap.size + 1) w2 w3) (ho : OwnB (w0.heap.size + 1) w3 v' (S ++ (rest s c).takeWhile (fun c => c != 39))) : QB w0 w3 b s (c + ((rest s c).takeWhile (fun c => c != 39)).length) v' (S ++ (rest s c).takeWhile (fun c => c != 39)) := by
  have hlb := h.lb
  refine ⟨⟨(hb.block b (by omega)).trans ht.sc.hh, ht.sc.le⟩, (hb.block _ (by omega)).trans ht.j, ho, ?_, Nat.le_trans (Nat.le_trans h.sz ht.fr.size) hb.size, h.lb⟩
  have h1 := h.fr.trans ht.fr (fun i hi => hi.imp id (fun e => Nat.le_of_eq e.symm))
  exact ⟨hb.os.trans h1.os, hb.tape.trans h1.tape, hb.output.trans h1.output, Nat.le_trans h1.size hb.size, fun k hk hn => (hb.block k (by omega)).trans (h1.block k hk hn)⟩
theorem QB.own2 {w0 w w2 : World} {b : Nat} {s : ByteArray} {c : Nat} {v : Value} {S : List UInt8} {e : Ending} (h : QB w0 w b s c v S) (ht : TkTo w b s c (fun c => c != 39) (fun i => i = w0.heap.size) (fun l W => BoxT W w0.heap.size ((S ++ l).all isTx)) e w2) : OwnB (w0.heap.size + 1) w2 v S := by
  have hlb := h.lb
  exact h.own.keepF ht.fr (fun i hi => by rcases hi with hi | hi <;> omega)
theorem tw_split (s : ByteArray) (k : UInt8 → Bool) (p : Nat) : rest s p = (rest s p).takeWhile k ++ rest s (p + ((rest s p).takeWhile k).length) := by
  rw [← rest_add]
  have : ∀ l : List UInt8, l = l.takeWhile k ++ l.drop (l.takeWhile k).length := fun l => by
    conv => lhs; rw [← List.take_append_drop (l.takeWhile k).length l]
    rw [tw_pre]
  exact this _
/-- Behind a text's parts: it has no end; it ends here; it goes on behind two signs. -/
theorem tx_parts {s : ByteArray} {a : Nat} {t : List UInt8} {n : Nat} (ht : t = (rest s (a + 1)).takeWhile (fun c => c != 39)) (hn : n = t.length) (hle : a + 1 + n ≤ s.size) :
    (a + 1 + n = s.size → txN (rest s (a + 1)) = none) ∧ (a + 1 + n < s.size → ([39] : List UInt8).isPrefixOf (rest s (a + 1 + n + 1)) = false → txN (rest s (a + 1)) = some (t, n + 1)) ∧
    (a + 1 + n < s.size → ([39] : List UInt8).isPrefixOf (rest s (a + 1 + n + 1)) = true → a + 1 + n + 1 < s.size ∧ txN (rest s (a + 1)) = (txN (rest s (a + 1 + n + 1 + 1))).map fun x => (t ++ [39] ++ x.1, x.2 + (n + 2))) := by
  have hall : ∀ c ∈ t, (c != 39) = true := fun c hc => by rw [ht] at hc; exact tw_mem (p := fun c => c != 39) _ c hc
  have hsp := tw_split s (fun c => c != 39) (a + 1)
  rw [← ht, ← hn] at hsp
  have hq : ∀ h : a + 1 + n < s.size, s[a + 1 + n] = 39 := fun h => by
    have := tw_stopped s (fun c => c != 39) (a + 1)
    rw [← ht, ← hn] at this
    have := this h
    simpa using this
  refine ⟨fun he => ?_, fun hlt hpre => ?_, fun hlt hpre => ?_⟩
  · rw [hsp, rest_end s (by omega), List.append_nil]
    exact txN_open hall
  · rw [hsp, txN_part t _ hall, rest_at s hlt, hq hlt, txN_last hpre]
    simp [hn]; omega
  · have hl2 : a + 1 + n + 1 < s.size := by
      rcases Nat.lt_or_ge (a + 1 + n + 1) s.size with h' | h'
      · exact h'
      · rw [rest_end s h'] at hpre; simp at hpre
    refine ⟨hl2, ?_⟩
    rw [rest_at s hl2] at hpre
    have h39 : s[a + 1 + n + 1] = 39 := by
      simp only [List.isPrefixOf] at hpre
      simp at hpre
      exact hpre.symm
    rw [hsp, txN_part t _ hall, rest_at s hlt, hq hlt, rest_at s hl2, h39, txN_two]
    cases txN (rest s (a + 1 + n + 1 + 1)) with
    | none => rfl
    | some x => simp [hn]; omega
theorem isTx39 : isTx 39 = true := by decide
set_option maxHeartbeats 2000000 in
set_option maxRecDepth 100000 in
theorem quoted_any {w : World} {b : Nat} {s : ByteArray} {p : Nat} (h : Sc w b s p) (hs : s.size ≤ 10000) (hp : p < s.size) : Calls Tryd.prog 22 #[.pointer (some ⟨b, 0, none⟩)] w fun e w' => StTo w b s p (txS (rest s (p + 1))) e w' := by
  have HS0 := Go.Proofs.YtifnmclidabkfaaDoor.Hid.mk' h
  clear h
  obtain ⟨o, ho⟩ : ∃ o, o = txS (rest s (p + 1)) := ⟨_, rfl⟩
  rw [← ho]
  unfold txS at ho
  have HOO := Go.Proofs.YtifnmclidabkfaaDoor.Hid.mk' ho
  clear ho
  go_enter Tryd.func22, Tryd.ntmps22
  go_wp2_with fail
  have HZ : Hid (QB w (w.alloc (.cells #[.bool true] 4)) b s p (.slice none 0 0) []) := by
    have hb : Below w.heap.size w (w.alloc (.cells #[.bool true] 4)) := (Below.refl _ _).alloc (Nat.le_refl _) _
    exact ⟨HS0.out.keepB hb, heap_alloc_new w _, OwnB.nil_ _ _, Fr.of_below hb, by simp, HS0.out.lt⟩
  have HT0 : Hid (txN (rest s (p + 1)) = (txN (rest s (p + 1))).map fun x => (([] : List UInt8) ++ x.1, x.2 + (p - p))) := by
    show txN (rest s (p + 1)) = (txN (rest s (p + 1))).map fun x => (([] : List UInt8) ++ x.1, x.2 + (p - p))
    cases txN (rest s (p + 1)) <;> simp
  clear HS0
  go_loopg [4] s.size (fun kx sv wr => ∃ (c : Nat) (ao : Option Addr) (cap : Nat) (S : List UInt8), sv = .slice ao S.length cap ∧ s.size - c ≤ kx ∧ p ≤ c ∧ c < s.size ∧ S.length ≤ c ∧ Hid (QB w wr b s c (.slice ao S.length cap) S) ∧ Hid (txN (rest s (p + 1)) = (txN (rest s (c + 1))).map fun x => (S ++ x.1, x.2 + (c - p))))
  case atStart => exact ⟨p, none, 0, [], rfl, by omega, Nat.le_refl _, hp, Nat.zero_le _, HZ, HT0⟩
  case round =>
    rename World => wr
    obtain ⟨c, ao, cap, S, rfl, hkx, hpc, hcs, hSc, HQ, HT⟩ := hrel
    clear HZ HT0
    have c1 := HQ.out.sc.c1
    have f1 := HQ.out.sc.fz
    have HQ1 : Hid (QB w (wr.setCell ⟨b, 1, none⟩ (.int .i64 ((c : Int) + 1))) b s (c + 1) (.slice ao S.length cap) S) := HQ.out.at_ (c' := c + 1) (by omega)
    clear HQ
    go_wp2_with fail
    generalize wr.setCell ⟨b, 1, none⟩ (.int .i64 ((c : Int) + 1)) = w1 at *
    refine (HQ1.out.take hs).mono ?_
    intro e w2 hTk
    have HTk := Go.Proofs.YtifnmclidabkfaaDoor.Hid.mk' hTk
    obtain ⟨rfl, hS2, -, -⟩ := hTk
    have hown2 := HQ1.out.own2 HTk.out
    have hlist := ext_tw s (c + 1) (fun c => c != 39)
    have hsz2 : w.heap.size + 1 ≤ w2.heap.size := Nat.le_trans HQ1.out.sz HTk.out.fr.size
    have hle2 := hS2.le
    obtain ⟨hp1, hp2, hp3⟩ := tx_parts (s := s) (a := c) rfl rfl hle2
    have HP1 := Go.Proofs.YtifnmclidabkfaaDoor.Hid.mk' hp1
    have HP2 := Go.Proofs.YtifnmclidabkfaaDoor.Hid.mk' hp2
    have HP3 := Go.Proofs.YtifnmclidabkfaaDoor.Hid.mk' hp3
    have HQT : Hid (∀ v' w3, OwnB (w.heap.size + 1) w3 v' (S ++ (rest s (c + 1)).takeWhile (fun c => c != 39)) → Below (w.heap.size + 1) w2 w3 → QB w w3 b s (c + 1 + ((rest s (c + 1)).takeWhile (fun c => c != 39)).length) v' (S ++ (rest s (c + 1)).takeWhile (fun c => c != 39))) := fun v' w3 ho hb => HQ1.out.taken HTk.out hb ho
    have hxs : (s.extract (c + 1) (c + 1 + ((rest s (c + 1)).takeWhile (fun c => c != 39)).length)).size = ((rest s (c + 1)).takeWhile (fun c => c != 39)).length := by rw [size_of_list, hlist]
    generalize s.extract (c + 1) (c + 1 + ((rest s (c + 1)).takeWhile (fun c => c != 39)).length) = x at *
    generalize (rest s (c + 1)).takeWhile (fun c => c != 39) = t at *
    clear hp1 hp2 hp3 hS2 HQ1 HTk c1 f1
    have hxl : S.length + x.size ≤ 140737488355328 := by omega
    go_wp2_with (at_builtin; refine wp_appS _ rfl _ _ rfl (w.heap.size + 1) _ S rfl hown2 x rfl hxl hsz2 ?_)
    intro v' w3 hown3 hb3
    try rw [hlist] at hown3
    have HQ3 := Go.Proofs.YtifnmclidabkfaaDoor.Hid.mk' (HQT.out v' w3 hown3 hb3)
    obtain ⟨U, hU⟩ : ∃ U, U = S ++ t := ⟨_, rfl⟩
    rw [← hU] at hown3 HQ3
    have hUl : U.length ≤ S.length + t.length := by rw [hU]; simp
    have HU := Go.Proofs.YtifnmclidabkfaaDoor.Hid.mk' hU
    clear hU
    obtain ⟨ao3, cap3, hv3⟩ := hown3.form
    subst hv3
    have hat := atEnd_any HQ3.out.sc hs
    clear hown3 hown2 HQT hb3 hlist hxl
    generalize hn : t.length = n at *
    by_cases hend : c + 1 + n = s.size
    · have HGO : Hid (∀ w', Below w3.heap.size w3 w' → StTo w b s p o (.returned (.tuple #[.string ⟨#[]⟩, .string ⟨#[52, 50, 54, 48, 49]⟩])) w') := fun w' hb => by
        have e0 := HOO.out
        rw [HT.out, HP1.out hend] at e0
        exact .no 1 e0 rfl _ (HQ3.out.keepB hb).sc (HQ3.out.keepB hb).fr
      rw [decide_eq_true hend] at hat
      clear HP1 HP2 HP3 HT HQ3 HOO
      go_wp2_with fail
      refine hat.mono ?_
      rintro e w4 ⟨rfl, hb4⟩
      clear hat
      go_wp2_with fail
      go_ret2
      exact HGO.out _ hb4
    · have hlt : c + 1 + n < s.size := by omega
      rw [decide_eq_false hend] at hat
      go_wp2_with fail
      refine hat.mono ?_
      rintro e w4 ⟨rfl, hb4⟩
      clear hat
      have HQ4 := Go.Proofs.YtifnmclidabkfaaDoor.Hid.mk' (HQ3.out.keepB hb4)
      clear HQ3 hb4 HP1
      have c1 := HQ4.out.sc.c1
      have f1 := HQ4.out.sc.fz
      have HQ5 : Hid (QB w (w4.setCell ⟨b, 1, none⟩ (.int .i64 ((c : Int) + 1 + (n : Int) + 1))) b s (c + 1 + n + 1) (.slice ao3 U.length cap3) U) := by
        have := HQ4.out.at_ (c' := c + 1 + n + 1) (by omega)
        rw [show ((c + 1 + n + 1 : Nat) : Int) = (c : Int) + 1 + (n : Int) + 1 by omega] at this
        exact this
      have hst := stands_any HQ5.out.sc hs ⟨#[39]⟩
      simp only at hst
      clear HQ4
      cases hpre : ([39] : List UInt8).isPrefixOf (rest s (c + 1 + n + 1)) with
      | true =>
        obtain ⟨hl2, hp3⟩ := HP3.out hlt hpre
        rw [hpre] at hst
        have HT2 : Hid (txN (rest s (p + 1)) = (txN (rest s (c + 1 + n + 1 + 1))).map fun x => (U ++ [39] ++ x.1, x.2 + (c + 1 + n + 1 - p))) := by
          show txN (rest s (p + 1)) = (txN (rest s (c + 1 + n + 1 + 1))).map fun x => (U ++ [39] ++ x.1, x.2 + (c + 1 + n + 1 - p))
          rw [HT.out, hp3, HU.out]
          cases txN (rest s (c + 1 + n + 1 + 1)) with
          | none => rfl
          | some x => simp; omega
        clear HP2 HP3 hp3 hpre HT
        go_wp2_with fail
        generalize w4.setCell ⟨b, 1, none⟩ (.int .i64 ((c : Int) + 1 + (n : Int) + 1)) = w5 at *
        refine hst.mono ?_
        rintro e w6 ⟨rfl, hb6⟩
        have HQ6 := Go.Proofs.YtifnmclidabkfaaDoor.Hid.mk' (HQ5.out.keepB hb6)
        clear hst HQ5 hb6 c1 f1
        have hown6 := HQ6.out.own
        have hsz6 := HQ6.out.sz
        have hl6 : U.length + 1 ≤ 140737488355328 := by omega
        go_wp2_with (at_builtin; refine wp_app1 _ rfl _ _ rfl (w.heap.size + 1) _ U rfl (hown6.alloc _) w6.heap.size 39 39 rfl rfl (heap_alloc_new w6 _) hl6 (by simp; omega) ?_)
        intro v7 w7 hown7 hb7
        have HQ7 : Hid (QB w w7 b s (c + 1 + n + 1) v7 (U ++ [39])) := (HQ6.out.keepB ((Below.refl _ _).alloc (Nat.le_refl _) _)).app hb7 hown7 (by rw [List.all_append]; simp [isTx39])
        obtain ⟨ao7, cap7, hv7⟩ := hown7.form
        subst hv7
        clear HQ6 hown6 hown7 hb7
        have hS7 : (U ++ [39]).length ≤ c + 1 + n + 1 := by rw [List.length_append, List.length_singleton]; omega
        generalize U ++ [39] = U7 at *
        go_wp2_with fail
        go_roundg (s.size - (c + 1 + n + 1))
        case measure => omega
        case rel => exact ⟨c + 1 + n + 1, ao7, cap7, U7, rfl, Nat.le_refl _, by omega, hl2, by omega, HQ7, HT2⟩
      | false =>
        have hp2 := HP2.out hlt hpre
        rw [hpre] at hst
        have HE : Hid (o = if U.all isTx then if 400 < U.length then .no 3 else .tk 2 U 0 (c + 1 + n + 1 - p) else .no 1) := by
          show o = _
          rw [HOO.out, HT.out, hp2, HU.out]
          simp only [Option.map_some]
          rw [show n + 1 + (c - p) + 1 = c + 1 + n + 1 - p by omega]
        clear HP2 HP3 hp2 hpre HT HOO
        go_wp2_with fail
        generalize w4.setCell ⟨b, 1, none⟩ (.int .i64 ((c : Int) + 1 + (n : Int) + 1)) = w5 at *
        refine hst.mono ?_
        rintro e w6 ⟨rfl, hb6⟩
        have HQ6 := Go.Proofs.YtifnmclidabkfaaDoor.Hid.mk' (HQ5.out.keepB hb6)
        clear hst HQ5 hb6 c1 f1
        have d0 := HQ6.out.bx.cell
        cases hall : U.all isTx with
        | false =>
          rw [hall] at d0
          have HGO : Hid (StTo w b s p o (.returned (.tuple #[.string ⟨#[]⟩, .string ⟨#[52, 50, 54, 48, 49]⟩])) w6) := .no 1 (by rw [HE.out, hall]; rfl) rfl _ HQ6.out.sc HQ6.out.fr
          clear hall HE HQ6
          go_wp2_with fail
          go_ret2
          exact HGO.out
        | true =>
          rw [hall] at d0
          by_cases h400 : 400 < U.length
          · have h4 : (U.length : Int) > 400 := by omega
            have HGO : Hid (StTo w b s p o (.returned (.tuple #[.string ⟨#[]⟩, .string ⟨#[50, 50, 48, 48, 49]⟩])) w6) := .no 3 (by rw [HE.out, hall, if_pos rfl, if_pos h400]) rfl _ HQ6.out.sc HQ6.out.fr
            clear hall HE HQ6 h400
            go_wp2_with fail
            go_ret2
            exact HGO.out
          · have h4 : ¬ (U.length : Int) > 400 := by omega
            have HGO : Hid (StTo w b s p o (.returned (.tuple #[.string ⟨U.toArray⟩, .string ⟨#[48, 48, 48, 48, 48]⟩])) w6) := .tk 2 U 0 (c + 1 + n + 1 - p) (by rw [HE.out, hall, if_pos rfl, if_neg h400]) rfl (by rw [show p + (c + 1 + n + 1 - p) = c + 1 + n + 1 by omega]; exact HQ6.out.sc) HQ6.out.fr
            have hcb := own_back HQ6.out.own
            clear hall HE HQ6 h400
            go_wp2_with fail
            go_ret2
            exact HGO.out
end Go.Proofs.YtifnmclidabkfaaDoor
