/- Get, Update, Delete, Insert, Scan of a heap. -/
import Derived.Test.YtkmgahembhgloaaH8N
import Derived.Test.YtkmgahembhgloaaH8J
namespace Go.Proofs.Ytkmgahembhgloaa
open Go.RowKit Go.Maps Go.Shelf
set_option linter.unusedVariables false
set_option linter.unusedSimpArgs false

/-- What a call leaves of a heap. -/
inductive HTo (base : Nat) (w : World) (F : Nat → Prop) (hv : Value) (n : Nat) (R' : Nat → List (List UInt8)) (t' : Nat) (w3 : World) : Prop
  | mk (F' : Nat → Prop) (hH : HeapAt base w3 F' hv n R' t') (hF' : ∀ i, F' i → F i ∨ w.heap.size ≤ i) (hfr : Fr w w3 F)
theorem HeapAt.le {base : Nat} {w : World} {F : Nat → Prop} {hv : Value} {n : Nat} {R : Nat → List (List UInt8)} {t t' : Nat} (h : HeapAt base w F hv n R t) (ht : t ≤ t') : HeapAt base w F hv n R t' := by
  obtain ⟨FP, FD, hgg, p, dp, nd, P, D, e, h⟩ := h
  exact ⟨FP, FD, hgg, p, dp, nd, P, D, e, { h with uses := by have := h.uses; omega, ws := by have := h.ws; omega }⟩
/-- What Get tells. -/
inductive GetOut (base : Nat) (w : World) (F : Nat → Prop) (hv : Value) (n : Nat) (R : Nat → List (List UInt8)) (t : Nat) (id : Int) (e : Ending) (w3 : World) : Prop
  | no (hn : ¬ ThereR n R id) (he : e = .returned (.tuple #[.slice none 0 0, .int .i64 82])) (h : HTo base w F hv n R (t + 1) w3)
  | yes (k s : Nat) (hk : k < n) (hs : s < 256) (hid : id = 256 * (k : Int) + (s : Int)) (hy : thereP (R k) s) (ao : Option Addr) (m cp : Nat) (he : e = .returned (.tuple #[.slice ao m cp, .int .i64 0])) (hown : OwnB w.heap.size w3 (.slice ao m cp) ((R k).getD s [])) (F' : Nat → Prop) (hH : HeapAt base w3 F' hv n R (t + 1)) (hF' : ∀ i, F' i → F i ∨ w.heap.size ≤ i) (hfr : Fr w w3 F) (hnF : ∀ c, (Value.slice ao m cp).ownBlock = some c → ¬ F' c)
set_option maxHeartbeats 400000 in
theorem hget_any {base : Nat} {w : World} {F : Nat → Prop} {hv : Value} {n : Nat} {R : Nat → List (List UInt8)} {t : Nat} (hH : HeapAt base w F hv n R t) (ht : t < 50000) (id : Int) (hidr : -9223372036854775808 ≤ id ∧ id ≤ 9223372036854775807) :
    Calls Try.prog 15 #[hv, .int .i64 id] w fun e w3 => GetOut base w F hv n R t id e w3 := by
  have hb0 : Below w.heap.size w (w.alloc (.cells #[.slice none 0 0] 30)) := (Below.refl _ _).alloc (Nat.le_refl _) _
  have bf := Boxed.new w 30 (.slice none 0 0)
  have hsz : (w.alloc (.cells #[.slice none 0 0] 30)).heap.size = w.heap.size + 1 := by simp
  have hFl := hH.lo
  obtain ⟨wa, hwa⟩ : ∃ wa, w.alloc (.cells #[.slice none 0 0] 30) = wa := ⟨_, rfl⟩
  rw [hwa] at hb0 bf hsz
  have hor := onRecord_any (C := fun i => i = w.heap.size) (hH.keepB hb0) ht id hidr 33 #[.pointer (some ⟨w.heap.size, 0, none⟩)] (enters_of Try.func33 (by kernel_rfl) rfl) (fun i hi => ⟨fun h => by have := (hFl i h).2; omega, by omega⟩) (fun w1 o x w2 => ∃ k s : Nat, k < n ∧ s < 256 ∧ id = 256 * (k : Int) + (s : Int) ∧ GetPost (R k) s w.heap.size w1 o x w2) (fun k s w1 b cap c hk hs hid hy hf ho hp => by
    have hob := World.ownsRow.lt ho b rfl
    refine (get1_any ho hp hy (Bf := w.heap.size) ((hf.block _ bf.lt (fun h => by have := (hFl _ h).2; omega)).trans bf) (by omega)).mono ?_
    rintro e w2 hO
    cases hO with
    | none_ x he hf2 hp2 => exact .none_ x he hf2 ⟨k, s, hk, hs, hid, hp2⟩
    | some_ rs a cp c' x he hb hbl hc hf2 hp2 => exact .some_ rs a cp c' x he hb hbl hc hf2 ⟨k, s, hk, hs, hid, hp2⟩)
  obtain ⟨hg, p, rfl, _⟩ := hH.cells
  have hmf := mkF
  have HF : Hid (∀ i, F i → base ≤ i ∧ i < w.heap.size) := hFl
  have HBF : Hid (Boxed wa w.heap.size 30 (.slice none 0 0)) := bf
  clear hFl bf
  go_enter Try.func15, Try.ntmps15
  go_wp2_with fail
  refine hor.mono ?_
  clear hor
  rintro e w3 hO
  cases hO with
  | no hn he F' t' ht' hH' hF' hfr =>
    subst he
    have hb3 : Boxed w3 w.heap.size 30 (.slice none 0 0) := (hfr.block _ HBF.out.lt (fun h => by have := (HF.out _ h).2; omega)).trans HBF.out
    have q := hb3.cell
    have hT : HTo base w F (.pointer (some ⟨hg, 0, none⟩)) n R (t + 1) w3 := .mk F' (HeapAt.le hH' ht') (fun i hi => (hF' i hi).imp (fun h => h) (fun h => by omega)) ((Fr.of_below hb0).trans hfr (fun i hi => Or.inl hi))
    go_wp2
    refine bodyPost_ret (v := .tuple #[.slice none 0 0, .int .i64 82]) (by simp [results, Try.results15, go_sem]) rfl ?_
    exact .no hn rfl hT
  | yes k s hk hs hid hy o x w1 w2 F1 F' he h1 hp h2 hF1 hH' hF' hfr hF2 =>
    obtain ⟨k', s', hk', hs', hid', ho, hx, ao, m, cp, hbx, hvx⟩ := hp
    have e1 : k' = k := by omega
    have e2 : s' = s := by omega
    subst e1 e2 ho hx he
    have hs1 := h1.size
    have hb3 : Boxed w3 w.heap.size 30 (.slice ao m cp) := (h2.block _ hbx.lt (fun h => by
      rcases (hF1 _ h).2 with h' | h'
      · have := (HF.out _ h').2; omega
      · omega)).trans hbx
    have q := hb3.cell
    have hv3 : OwnB w.heap.size w3 (.slice ao m cp) ((R k').getD s' []) := own_base (own_of_block hvx (fun b hb => h2.block b (World.ownsRow.lt hvx b hb).2 (fun h => by have := (hF1 _ h).1; have := (World.ownsRow.lt hvx b hb).1; omega))) (by omega)
    have hE : GetOut base w F (.pointer (some ⟨hg, 0, none⟩)) n R t id (.returned (.tuple #[.slice ao m cp, .int .i64 0])) w3 := .yes k' s' hk hs hid hy ao m cp rfl hv3 F' hH' (fun i hi => (hF' i hi).imp (fun h => h) (fun h => by omega)) ((Fr.of_below hb0).trans hfr (fun i hi => hi.elim Or.inl (fun e => Or.inr (by omega)))) (fun c hc h => by
      have := World.ownsRow.lt hvx c hc
      have := hF2 c h
      omega)
    go_wp2
    refine bodyPost_ret (v := .tuple #[.slice ao m cp, .int .i64 0]) (by simp [results, Try.results15, go_sem]) rfl ?_
    exact hE
theorem hget_nil (id : Int) (w : World) : Calls Try.prog 15 #[.pointer none, .int .i64 id] w fun e w' => e = .returned (.tuple #[.slice none 0 0, .int .i64 1]) ∧ Below w.heap.size w w' := by
  have hb0 : Below w.heap.size w (w.alloc (.cells #[.slice none 0 0] 30)) := (Below.refl _ _).alloc (Nat.le_refl _) _
  have bf := (Boxed.new w 30 (.slice none 0 0)).cell
  have hmf := mkF
  have hr := onRecord_nil id 33 #[.pointer (some ⟨w.heap.size, 0, none⟩)] (w.alloc (.cells #[.slice none 0 0] 30))
  go_enter Try.func15, Try.ntmps15
  go_wp2_with (go_at_call 32; refine hr.mono ?_; clear hr; rintro e w1 ⟨rfl, hb⟩; have q := (hb.cell (p := ⟨w.heap.size, 0, none⟩) (by simp)).trans bf)
  refine bodyPost_ret (v := .tuple #[.slice none 0 0, .int .i64 1]) (by simp [results, Try.results15, go_sem]) rfl ?_
  exact ⟨rfl, hb0.trans (hb.mono (by simp))⟩
/-- What Delete tells. -/
inductive DelOut (base : Nat) (w : World) (F : Nat → Prop) (hv : Value) (n : Nat) (R : Nat → List (List UInt8)) (t : Nat) (id : Int) (e : Ending) (w3 : World) : Prop
  | no (hn : ¬ ThereR n R id) (he : e = .returned (.int .i64 82)) (h : HTo base w F hv n R (t + 1) w3)
  | yes (k s : Nat) (hk : k < n) (hs : s < 256) (hid : id = 256 * (k : Int) + (s : Int)) (hy : thereP (R k) s) (he : e = .returned (.int .i64 0)) (h : HTo base w F hv n (upR R k (some ((R k).set s []))) (t + 1) w3)
theorem hdelete_any {base : Nat} {w : World} {F : Nat → Prop} {hv : Value} {n : Nat} {R : Nat → List (List UInt8)} {t : Nat} (hH : HeapAt base w F hv n R t) (ht : t < 50000) (id : Int) (hidr : -9223372036854775808 ≤ id ∧ id ≤ 9223372036854775807) :
    Calls Try.prog 21 #[hv, .int .i64 id] w fun e w3 => DelOut base w F hv n R t id e w3 := by
  have hor := onRecord_any (C := fun _ => False) hH ht id hidr 44 #[] (enters_of Try.func44 (by kernel_rfl) rfl) (fun i hi => hi.elim) (fun w1 o x w2 => ∃ k s : Nat, k < n ∧ s < 256 ∧ id = 256 * (k : Int) + (s : Int) ∧ DelPost (R k) s w1 o x w2) (fun k s w1 b cap c hk hs hid hy hf ho hp => by
    refine (delete1_any ho hp hy).mono ?_
    rintro e w2 hO
    cases hO with
    | none_ x he hf2 hp2 => exact .none_ x he hf2 ⟨k, s, hk, hs, hid, hp2⟩
    | some_ rs a cp c' x he hb hbl hc hf2 hp2 => exact .some_ rs a cp c' x he hb hbl hc hf2 ⟨k, s, hk, hs, hid, hp2⟩)
  obtain ⟨hg, p, rfl, _⟩ := hH.cells
  have hmf := mkF
  go_enter Try.func21, Try.ntmps21
  go_wp2_with fail
  refine hor.mono ?_
  clear hor
  rintro e w3 hO
  cases hO with
  | no hn he F' t' ht' hH' hF' hfr =>
    subst he
    have hE : DelOut base w F (.pointer (some ⟨hg, 0, none⟩)) n R t id (.returned (.int .i64 82)) w3 := .no hn rfl (.mk F' (HeapAt.le hH' ht') hF' hfr)
    go_wp2
    go_ret
    exact hE
  | yes k s hk hs hid hy o x w1 w2 F1 F' he h1 hp h2 hF1 hH' hF' hfr hF2 =>
    obtain ⟨k', s', hk', hs', hid', ho, hx⟩ := hp
    have e1 : k' = k := by omega
    have e2 : s' = s := by omega
    subst e1 e2 ho hx he
    have hE : DelOut base w F (.pointer (some ⟨hg, 0, none⟩)) n R t id (.returned (.int .i64 0)) w3 := .yes k' s' hk hs hid hy rfl (.mk F' hH' hF' (hfr.mono (fun i hi => hi.elim (fun h => h) False.elim)))
    go_wp2
    go_ret
    exact hE
theorem hdelete_nil (id : Int) (w : World) : Calls Try.prog 21 #[.pointer none, .int .i64 id] w fun e w' => e = .returned (.int .i64 1) ∧ Below w.heap.size w w' := by
  have hmf := mkF
  have hr := onRecord_nil id 44 #[] w
  go_enter Try.func21, Try.ntmps21
  go_wp2_with (go_at_call 32; refine hr.mono ?_; clear hr; rintro e w1 ⟨rfl, hb⟩)
  go_ret
  exact ⟨rfl, hb⟩
/-- Bytes that lie outside the heap. -/
def OutB (F : Nat → Prop) (v : Value) : Prop := ∀ a n c, v = .slice (some a) n c → ¬ F a.block
/-- What Update tells. -/
inductive UpdOut (base : Nat) (w : World) (F : Nat → Prop) (hv : Value) (n : Nat) (R : Nat → List (List UInt8)) (t : Nat) (id : Int) (b : List UInt8) (e : Ending) (w3 : World) : Prop
  | no (hn : ¬ ThereR n R id) (he : e = .returned (.int .i64 82)) (h : HTo base w F hv n R (t + 1) w3)
  | yes (k s : Nat) (hk : k < n) (hs : s < 256) (hid : id = 256 * (k : Int) + (s : Int)) (hy : thereP (R k) s) (he : e = .returned (.int .i64 (updO (R k) s b).2)) (h : HTo base w F hv n (upR R k (updO (R k) s b).1) (t + 1) w3)
theorem hupdate_any {base : Nat} {w : World} {F : Nat → Prop} {hv : Value} {n : Nat} {R : Nat → List (List UInt8)} {t : Nat} (hH : HeapAt base w F hv n R t) (ht : t < 50000) (id : Int) (hidr : -9223372036854775808 ≤ id ∧ id ≤ 9223372036854775807) (bval : Value) (bs : List UInt8) (hB : Bytes w bval bs) (hout : OutB F bval) (hbl : bs.length ≤ 140737488355328) :
    Calls Try.prog 20 #[hv, .int .i64 id, bval] w fun e w3 => UpdOut base w F hv n R t id bs e w3 := by
  obtain ⟨ba, bc, rfl, _, _⟩ := hB.form
  have hb0 : Below w.heap.size w (w.alloc (.cells #[.slice ba bs.length bc] 30)) := (Below.refl _ _).alloc (Nat.le_refl _) _
  have bf := Boxed.new w 30 (.slice ba bs.length bc)
  have hFl := hH.lo
  obtain ⟨wa, hwa⟩ : ∃ wa, w.alloc (.cells #[.slice ba bs.length bc] 30) = wa := ⟨_, rfl⟩
  rw [hwa] at hb0 bf
  have hsz := hb0.size
  have hor := onRecord_any (C := fun _ => False) (hH.keepB hb0) ht id hidr 42 #[.pointer (some ⟨w.heap.size, 0, none⟩)] (enters_of Try.func42 (by kernel_rfl) rfl) (fun i hi => hi.elim) (fun w1 o x w2 => ∃ k s : Nat, k < n ∧ s < 256 ∧ id = 256 * (k : Int) + (s : Int) ∧ UpdPost (R k) s bs w1 o x w2) (fun k s w1 b cap c hk hs hid hy hf ho hp => by
    have hob := World.ownsRow.lt ho b rfl
    refine (update1_any ho hp hy hob.2 (Bb := w.heap.size) ((hf.block _ bf.lt (fun h => by have := (hFl _ h).2; omega)).trans bf) ((hB.keep hb0).fr8 hout hf) hbl).mono ?_
    rintro e w2 hO
    cases hO with
    | none_ x he hf2 hp2 => exact .none_ x he hf2 ⟨k, s, hk, hs, hid, hp2⟩
    | some_ rs a cp c' x he hb hbl hc hf2 hp2 => exact .some_ rs a cp c' x he hb hbl hc hf2 ⟨k, s, hk, hs, hid, hp2⟩)
  obtain ⟨hg, p, rfl, _⟩ := hH.cells
  have hmf := mkF
  clear hB bf hFl
  generalize bs.length = m at *
  go_enter Try.func20, Try.ntmps20
  go_wp2_with fail
  refine hor.mono ?_
  clear hor
  rintro e w3 hO
  cases hO with
  | no hn he F' t' ht' hH' hF' hfr =>
    subst he
    have hE : UpdOut base w F (.pointer (some ⟨hg, 0, none⟩)) n R t id bs (.returned (.int .i64 82)) w3 := .no hn rfl (.mk F' (HeapAt.le hH' ht') (fun i hi => (hF' i hi).imp (fun h => h) (fun h => by omega)) ((Fr.of_below hb0).trans hfr (fun i hi => Or.inl hi)))
    go_wp2
    go_ret
    exact hE
  | yes k s hk hs hid hy o x w1 w2 F1 F' he h1 hp h2 hF1 hH' hF' hfr hF2 =>
    obtain ⟨k', s', hk', hs', hid', hp⟩ := hp
    have e1 : k' = k := by omega
    have e2 : s' = s := by omega
    subst e1 e2 he
    unfold UpdPost at hp
    have hE : UpdOut base w F (.pointer (some ⟨hg, 0, none⟩)) n R t id bs (.returned (.int .i64 x)) w3 := .yes k' s' hk hs hid hy (by rw [← hp]) (.mk F' (by rw [← hp]; exact hH') (fun i hi => (hF' i hi).imp (fun h => h) (fun h => by omega)) ((Fr.of_below hb0).trans hfr (fun i hi => hi.elim Or.inl False.elim)))
    go_wp2
    go_ret
    exact hE
theorem hupdate_nil (id : Int) (ao : Option Addr) (m c : Nat) (w : World) : Calls Try.prog 20 #[.pointer none, .int .i64 id, .slice ao m c] w fun e w' => e = .returned (.int .i64 1) ∧ Below w.heap.size w w' := by
  have hmf := mkF
  have hb0 : Below w.heap.size w (w.alloc (.cells #[.slice ao m c] 30)) := (Below.refl _ _).alloc (Nat.le_refl _) _
  have hr := onRecord_nil id 42 #[.pointer (some ⟨w.heap.size, 0, none⟩)] (w.alloc (.cells #[.slice ao m c] 30))
  go_enter Try.func20, Try.ntmps20
  go_wp2_with (go_at_call 32; refine hr.mono ?_; clear hr; rintro e w1 ⟨rfl, hb⟩)
  go_ret
  exact ⟨rfl, hb0.trans (hb.mono (by simp))⟩
end Go.Proofs.Ytkmgahembhgloaa
