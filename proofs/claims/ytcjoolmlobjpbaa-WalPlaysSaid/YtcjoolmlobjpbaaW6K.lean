/- Package wal: a copy of bytes; Flush. -/
import Derived.Test.YtcjoolmlobjpbaaW6J
namespace Go.Proofs.Ytcjoolmlobjpbaa
open Go.RowKit Go.Maps
set_option linter.unusedVariables false
set_option linter.unusedSimpArgs false

theorem own_empty (base : Nat) (w : World) (hb : base ≤ w.heap.size) : OwnB base (w.alloc (.cells #[] 5)) (.slice (some ⟨w.heap.size, 0, none⟩) 0 0) [] :=
  ⟨rfl, Or.inr ⟨w.heap.size, 0, #[], rfl, hb, heap_alloc_new w _, Nat.le_refl _, by unfold maxLen; omega, rfl, rfl⟩⟩
theorem build_empty (w : World) : (Instr.buildSlice 36 0 #[]).run Try.prog w = .ok (.slice (some ⟨w.heap.size, 0, none⟩) 0 0) (w.alloc (.cells #[] 5)) := by kernel_rfl
set_option maxHeartbeats 1000000 in
/-- bytes.Clone. -/
theorem clone_bytes (base : Nat) (v : Value) (xs : List UInt8) (w : World) (h : Bytes w v xs) (hx : 0 < xs.length) (hl : xs.length ≤ 1000000) (hb : base ≤ w.heap.size) :
    Calls Try.prog 36 #[v] w fun e w' => ∃ v', e = .returned v' ∧ OwnB base w' v' xs ∧ (∀ k, v'.ownBlock = some k → w.heap.size ≤ k) ∧ Below w.heap.size w w' := by
  obtain ⟨ao, cap, rfl, hc, hcells⟩ := h.form
  obtain ⟨a, rfl, _⟩ := hcells hx
  clear hcells
  have h0 : Below w.heap.size w (w.alloc (.cells #[] 5)) := (Below.refl _ _).alloc (Nat.le_refl _) _
  have h1 := h.keep h0
  have HC : Hid (∀ j (hj : j < xs.length), (w.alloc (.cells #[] 5)).cell? (a.add j) = some (bv xs[j])) := by
    rcases h1 with ⟨h, _⟩ | ⟨a', cap', h, _, h2⟩
    · cases h
    · cases h; exact h2
  have HO : Hid (OwnB base (w.alloc (.cells #[] 5)) (.slice (some ⟨w.heap.size, 0, none⟩) 0 0) []) := own_empty base w hb
  have hbe := build_empty w
  have hq := nil_eql
  clear h1 h
  go_enter Try.func36, Try.ntmps36
  go_wp2_with (first | (at_builtin; refine wp_appA _ rfl _ _ rfl base _ [] rfl HO.out a xs.length cap xs rfl HC.out rfl hx (by simp; omega) (by simp; omega) ?_))
  intro v' w2 ho hg
  have hG : GrowB w (.slice (some ⟨w.heap.size, 0, none⟩) 0 0) w2 v' := ((GrowB.refl w _).alloc _).trans hg
  have hb2 : Below w.heap.size w w2 := h0.grown hg.grown (by simp) (by intro k hk; simp [Value.ownBlock] at hk; omega)
  have hn : ∀ k, v'.ownBlock = some k → w.heap.size ≤ k := fun k hk => by
    rcases hg.own with e | e
    · rw [e] at hk; simp [Value.ownBlock] at hk; omega
    · have := e k hk; simp at this; omega
  clear hG hg
  go_wp2
  go_ret
  exact ⟨v', rfl, by simpa using ho, hn, hb2⟩
theorem put_take {α : Type} (c : List α) (off n : Nat) (cs : List α) (h : off + cs.length ≤ n) (hn : n ≤ c.length) : (c.take off ++ cs ++ c.drop (off + cs.length)).take n = (c.take n).take off ++ (cs ++ (c.take n).drop (off + cs.length)) := by
  have e1 : (c.take off ++ cs).length = off + cs.length := by rw [List.length_append, List.length_take]; omega
  rw [List.take_append, e1, List.take_of_length_le (by omega), List.take_take, Nat.min_eq_left (by omega), List.drop_take, List.append_assoc]
/-- Eight bytes of a row that the call made are others. -/
theorem own_put {base : Nat} {w : World} {g n cap : Nat} {fr cs : List UInt8} {cur : Array Value} (off : Nat) (hown : OwnB base w (.slice (some ⟨g, 0, none⟩) n cap) fr) (hg : w.heap[g]? = some (.cells cur 5 (0, 0))) (h : off + cs.length ≤ fr.length) :
    off + cs.length ≤ cur.size ∧ OwnB base (w.setRow g (cur.toList.take off ++ cs.map bv ++ cur.toList.drop (off + (cs.map bv).length)).toArray) (.slice (some ⟨g, 0, none⟩) n cap) (fr.take off ++ (cs ++ fr.drop (off + cs.length))) ∧ Fr w (w.setRow g (cur.toList.take off ++ cs.map bv ++ cur.toList.drop (off + (cs.map bv).length)).toArray) (fun k => k = g) := by
  rcases hown with ⟨h0, ⟨hv, _⟩ | ⟨g', cap', cur', hv, hbg, hg', hnc, hcm, hcs, htake⟩⟩
  · cases hv
  · cases hv
    rw [hg] at hg'
    cases hg'
    have hcl : fr.length ≤ cur.size := by rw [hcs]; omega
    have hll : (fr.take off ++ (cs ++ fr.drop (off + cs.length))).length = fr.length := by simp; omega
    refine ⟨by omega, ⟨by simp [hll]; omega, Or.inr ⟨g, cap, _, by rw [hll], hbg, setRow_heap w g cur _ _ _ hg, by rw [hll]; exact hnc, hcm, ?_, ?_⟩⟩, ⟨rfl, rfl, rfl, by simp, fun k _ hk => setRow_other w g k _ hk⟩⟩
    · simp at hcs ⊢; omega
    · rw [hll]
      simp only [Nat.mul_one] at htake ⊢
      have hp := put_take cur.toList off fr.length (cs.map bv) (by simpa using h) (by simpa using hcl)
      rw [htake] at hp
      rw [hp]
      simp [List.map_take, List.map_drop]
theorem own_cur {base : Nat} {w : World} {g n cap : Nat} {fr : List UInt8} (hown : OwnB base w (.slice (some ⟨g, 0, none⟩) n cap) fr) : ∃ cur, w.heap[g]? = some (.cells cur 5 (0, 0)) := by
  rcases hown with ⟨h0, ⟨hv, _⟩ | ⟨g', cap', cur', hv, hbg, hg', _⟩⟩
  · cases hv
  · cases hv; exact ⟨cur', hg'⟩
theorem run_clear8 {base : Nat} {w : World} {g n cap : Nat} {fr : List UInt8} (off c2 : Nat) (hown : OwnB base w (.slice (some ⟨g, 0, none⟩) n cap) fr) (h : off + 8 ≤ fr.length) :
    ∃ w', (∀ ty, (Builtin.clear_ #[36] ty #[.slice (some ⟨g, off, none⟩) 8 c2]).run Try.prog w = .ok (.tuple #[]) w') ∧ OwnB base w' (.slice (some ⟨g, 0, none⟩) n cap) (blank fr off) ∧ Fr w w' (fun k => k = g) := by
  obtain ⟨cur, hg⟩ := own_cur hown
  obtain ⟨h1, h2, h3⟩ := own_put (cs := List.replicate 8 0) off hown hg (by simpa using h)
  have hst := run_storeCells_at Try.prog g off 5 ((List.replicate 8 (0 : UInt8)).map bv) 0 cur w hg (by simp at h1 ⊢; omega) (one_bv _)
  simp only [Nat.add_zero] at hst
  refine ⟨_, fun ty => ?_, h2, h3⟩
  have hz : (Builtin.zeroCells (Value.int .u8 0).cells 8).toList = (List.replicate 8 (0 : UInt8)).map bv := by rw [zeroCells_rep]; rfl
  simp only [Builtin.clear_, List.getElem?_toArray, List.getElem?_cons_zero, Sem.run_bind, run_underlying Try.underlying36, Result.andThen_ok, run_zeroB, hz, hst, Sem.run_pure]
theorem run_copy8 {base : Nat} {w : World} {g n cap : Nat} {fr cs : List UInt8} (off c2 : Nat) (hown : OwnB base w (.slice (some ⟨g, 0, none⟩) n cap) fr) (h : off + 8 ≤ fr.length) (hcs : cs.length = 8) (v : Value) (hB : Bytes w v cs) :
    ∃ w', (∀ ty, (Builtin.copy_ #[36, 36] ty #[.slice (some ⟨g, off, none⟩) 8 c2, v]).run Try.prog w = .ok (goInt 8) w') ∧ OwnB base w' (.slice (some ⟨g, 0, none⟩) n cap) (fr.take off ++ (cs ++ fr.drop (off + 8))) ∧ Fr w w' (fun k => k = g) := by
  obtain ⟨cur, hg⟩ := own_cur hown
  obtain ⟨h1, h2, h3⟩ := own_put (cs := cs) off hown hg (by omega)
  obtain ⟨ao, cap', rfl, hc, hx⟩ := hB.form
  obtain ⟨a0, rfl, hx2⟩ := hx (by omega)
  rw [hcs] at h2
  refine ⟨_, fun ty => ?_, h2, h3⟩
  have hr := run_copy_row (P := Try.prog) w 36 36 ty 5 g off 8 c2 a0 cs.length cap' cur 5 (cs.map bv) Try.underlying36 infoB1 hg (by simp [hcs]) hx2 (by simp; omega) (one_bv _)
  rw [hr]
  simp [hcs]
theorem blank_back (fr : List UInt8) (off : Nat) (h : off + 8 ≤ fr.length) : (blank fr off).take off ++ ((fr.drop off).take 8 ++ (blank fr off).drop (off + 8)) = fr := by
  unfold blank
  have e1 : (fr.take off).length = off := by rw [List.length_take]; omega
  rw [List.take_left' e1, show off + 8 = off + 8 from rfl, ← List.drop_drop, List.drop_left' e1, List.drop_left' (by simp)]
  rw [← List.drop_drop]
  conv => rhs; rw [← List.take_append_drop off fr, ← List.take_append_drop 8 (fr.drop off)]
theorem LogIn.putFr {base : Nat} {w w' : World} {G : Nat → Prop} {g gf : Nat} {pd vf vr : Value} {L : LS} {fr' : List UInt8} (h : LogIn base w G g pd vf vr L) (hv : vf.ownBlock = some gf) (hf : Fr w w' (fun k => k = gf)) (ho : OwnB base w' vf fr') (hl : fr'.length ≤ 128 * L.n) : LogIn base w' G g pd vf vr { L with fr := fr' } :=
  { h with
    hg := (hf.block g (h.lo g h.gg).2 (fun e => h.nf (by rw [e]; exact hv))).trans h.hg
    fr := ho
    sp := own_of_block h.sp (fun k hk => hf.block k (h.lo k (h.gr k hk)).2 (fun e => h.nfr k (by rw [e]; exact hv) hk))
    lo := fun k hk => ⟨(h.lo k hk).1, Nat.lt_of_lt_of_le (h.lo k hk).2 hf.size⟩
    len := hl }
set_option maxHeartbeats 1000000 in
theorem flush_none {base : Nat} {w : World} {G : Nat → Prop} {pl pd : Value} {L : LS} (h : LogAt base w G pl pd L) (hfl : L.fl = L.sp.length) :
    Calls Try.prog 16 #[pl] w fun e w' => e = .returned (.int .i64 0) ∧ Below w.heap.size w w' := by
  obtain ⟨g, vf, vr, rfl, h⟩ := h
  obtain ⟨c0, c1, c2, c3, c4, c5, fz⟩ := cells6 h.hg
  obtain ⟨aor, capr, rfl, hcr⟩ := h.sp.form
  rw [hfl] at c5
  clear h hfl
  generalize L.sp.length = m at *
  go_enter Try.func16, Try.ntmps16
  go_wp2
  go_quiet (fail)
  go_wp2
  go_ret
  exact ⟨rfl, below_drewN (Below.refl _ _) _⟩
theorem flat_map_bv (l : List UInt8) : l.flatMap (fun b => [bv b]) = l.map bv := by
  induction l with
  | nil => rfl
  | cons x l ih => rw [List.flatMap_cons, ih]; rfl
/-- A flush: what became of the disk and of the log. -/
structure Flushed (base : Nat) (w w' : World) (F F' G : Nat → Prop) (p pl : Value) (n : Nat) (D : DS) (L : LS) : Prop where
  d : DiskAt base w' F' p n D
  l : LogAt base w' G pl p L
  f : Fr w w' (fun k => F k ∨ G k)
  o : ∀ k, F' k → F k ∨ w.heap.size ≤ k
set_option maxRecDepth 10000 in
set_option maxHeartbeats 8000000 in
theorem flush_some {base : Nat} {w : World} {F G : Nat → Prop} {p pl : Value} {n : Nat} {D : DS} {first : Int} {m : Nat} {recs : List (List UInt8)} {fl : Nat} (hD : DiskAt base w F p n D) (hL : LogAt base w G pl p (LSof first m recs fl)) (hd : ∀ k, F k → ¬ G k) (hsz : first + m ≤ D.size) (hoks : ∀ r ∈ recs, OkR r) (hfl : fl < recs.length) (hcnt : n + D.ws.length + m + 2 < 100000) :
    Calls Try.prog 16 #[pl] w fun e w' => e = .returned (.int .i64 0) ∧ ∃ F', Flushed base w w' F F' G p pl n (D.flush first (sizeL (recs.take fl)) (frames recs)) (LSof first m recs recs.length) := by
  obtain ⟨hfi, hm, hle, _, _⟩ := hL.ok
  have hfi' : 0 ≤ first ∧ first ≤ 4096 := hfi
  have hm' : 1 ≤ m ∧ m ≤ 1024 := hm
  have hle' : sizeL recs ≤ 128 * m := hle
  obtain ⟨dg, _, _, _, rfl, _⟩ := id hD
  obtain ⟨g, vf, vr, rfl, hLI⟩ := hL
  have hbase : base ≤ w.heap.size := by have := hLI.lo g hLI.gg; omega
  have hok := hoks _ (List.getElem_mem hfl)
  have hst := sizeL_take recs fl hfl
  have hst2 := sizeL_le recs (fl + 1)
  have hrn := rnd_ge recs[fl].length
  have hok1 := hok.1
  -- the rows
  obtain ⟨gr, capr, hvr, hcr, hcells⟩ := hLI.sp.at (by show 0 < (spans recs).length; rw [spans_len]; omega)
  have hvr' : vr = .slice (some ⟨gr, 0, none⟩) recs.length capr := by rw [hvr]; show Value.slice _ (spans recs).length capr = _; rw [spans_len]
  have hspk : (LSof first m recs fl).sp[fl]'(by show fl < (spans recs).length; rw [spans_len]; exact hfl) = (sizeL (recs.take fl) + 8, sizeL (recs.take fl) + 8 + recs[fl].length) := by
    have := spans_at recs fl hfl
    rw [List.getElem?_eq_some_iff] at this
    exact this.2
  have hcell := (hcells fl (by show fl < (spans recs).length; rw [spans_len]; exact hfl)).1
  rw [hspk] at hcell
  have hcell' : w.cell? ⟨gr, fl * 2, none⟩ = some (.int .i64 ((sizeL (recs.take fl) : Int) + 8)) := hcell
  clear hvr hcells hspk hcell hcr
  subst hvr'
  obtain ⟨gf, capf, hvf, hcf, _⟩ : ∃ gf capf, vf = .slice (some ⟨gf, 0, none⟩) (sizeL recs) capf ∧ sizeL recs ≤ capf ∧ True := by
    rcases own_range (c := fun b : UInt8 => [bv b]) (n := 1) (l := frames recs) (fun x _ => rfl) (by
      have := hLI.fr
      unfold OwnB at this
      have e : (frames recs).flatMap (fun b => [bv b]) = (frames recs).map bv := flat_map_bv _
      rw [e]; exact this) with ⟨_, h0⟩ | ⟨gf, cap, hv, hc, _⟩
    · exfalso
      have : sizeL recs = 0 := by unfold sizeL; rw [h0]; rfl
      omega
    · exact ⟨gf, cap, hv, hc, trivial⟩
  subst hvf
  obtain ⟨A, hA⟩ : ∃ A, sizeL (recs.take fl) = A := ⟨_, rfl⟩
  rw [hA] at hcell' hst ⊢
  obtain ⟨c0, c1, c2, c3, c4, c5, fz⟩ := cells6 hLI.hg
  have c5' : w.cell? ⟨g, 5, none⟩ = some (.int .i64 (fl : Int)) := c5
  have t1 : ¬ ((fl : Int) = (recs.length : Int)) := by omega
  have HL : Hid (LogIn base w G g (.pointer (some ⟨dg, 0, none⟩)) (.slice (some ⟨gf, 0, none⟩) (sizeL recs) capf) (.slice (some ⟨gr, 0, none⟩) recs.length capr) (LSof first m recs fl)) := hLI
  have HD : Hid (DiskAt base w F (.pointer (some ⟨dg, 0, none⟩)) n D) := hD
  have hA8 : A + 8 ≤ sizeL recs := by omega
  have hAle : A ≤ 131072 := by omega
  have hrecl : recs.length ≤ 10000 := by have := hLI.spl; have e : (LSof first m recs fl).sp.length = recs.length := spans_len recs; omega
  have hfi8 : (A : Int) + 8 - 8 = (A : Int) := by omega
  clear hLI hD c5 hst hst2 hrn hok hok1 hfi hm hle
  go_enter Try.func16, Try.ntmps16
  go_wp2
  go_quiet (fail)
  revert nq
  intro nq1
  go_wp2
  go_quiet (fail)
  have hbd : Below w.heap.size w ((w.drewN nq1).drewN nq) := below_drewN (below_drewN (Below.refl _ _) _) nq
  generalize ((w.drewN nq1).drewN nq) = wd at *
  have hL0 : LogIn base wd G g _ _ _ (LSof first m recs fl) := HL.out.keep (Fr.of_below (F := fun _ => False) hbd) (fun _ _ => id)
  have hD0 := HD.out.keepB hbd
  have HL0 : Hid (LogIn base wd G g (.pointer (some ⟨dg, 0, none⟩)) (.slice (some ⟨gf, 0, none⟩) (sizeL recs) capf) (.slice (some ⟨gr, 0, none⟩) recs.length capr) (LSof first m recs fl)) := hL0
  have HD0 : Hid (DiskAt base wd F (.pointer (some ⟨dg, 0, none⟩)) n D) := hD0
  have hbase0 : base ≤ wd.heap.size := Nat.le_trans hbase hbd.size
  clear c0 c1 c2 c3 c4 c5' fz hcell' hL0 hD0
  obtain ⟨c0, c1, c2, c3, c4, c5, fz⟩ := cells6 HL0.out.hg
  obtain ⟨lead, hlead⟩ : ∃ lead, A / 128 = lead := ⟨_, rfl⟩
  have hlead' : (A : Int) / 128 = (lead : Int) := by omega
  have hcapA : ¬ ((capf : Int) = (A : Int)) := by omega
  have hcapA' : ¬ (capf = A) := by omega
  have hBf : Bytes wd (.slice (some ⟨gf, 0, none⟩) (sizeL recs) capf) (frames recs) := HL0.out.fr.toBytes
  have hBh := hBf.part (a' := ⟨gf, A, none⟩) (lo := A) (hi := A + 8) rfl (by omega) hA8 (Or.inl (by rw [Addr.add_mid, Nat.zero_add]))
  rw [Nat.add_sub_cancel_left] at hBh
  have HBh : Hid (Bytes wd (.slice (some ⟨gf, A, none⟩) 8 (capf - A)) (((frames recs).drop A).take 8)) := hBh
  have hhl : (((frames recs).drop A).take 8).length = 8 := by rw [List.length_take, List.length_drop]; unfold sizeL at hA8; omega
  obtain ⟨hd8, hhd⟩ : ∃ h8, ((frames recs).drop A).take 8 = h8 := ⟨_, rfl⟩
  rw [hhd] at HBh hhl
  have HHD : Hid (((frames recs).drop A).take 8 = hd8) := hhd
  clear hBf hBh hhd
  go_wp2_with fail
  refine (clone_bytes wd.heap.size _ hd8 _ HBh.out (by omega) (by omega) (Nat.le_refl _)).mono ?_
  rintro e w1 ⟨v1, rfl, hown1, _, hb1⟩
  obtain ⟨ao1, cap1, hv1, hc1, _⟩ := hown1.toBytes.form
  rw [hhl] at hv1
  subst hv1
  have hL1 : LogIn base w1 G g _ _ _ (LSof first m recs fl) := HL0.out.keep (Fr.of_below (F := fun _ => False) hb1) (fun _ _ => id)
  have hD1 := HD0.out.keepB hb1
  obtain ⟨w2, hclr, hown2, hf2⟩ := run_clear8 A (capf - A) hL1.fr (by show A + 8 ≤ (frames recs).length; exact hA8)
  have hL2 := hL1.putFr (gf := gf) rfl hf2 hown2 (by show (blank (frames recs) A).length ≤ 128 * m; rw [blank_len hA8]; exact hle')
  have hngf : ¬ F gf := fun h => hd gf h (hL1.gf gf rfl)
  have hng : ¬ F g := fun h => hd g h hL1.gg
  have hD2 : DiskAt base w2 F (.pointer (some ⟨dg, 0, none⟩)) n D := hD1.keep hf2 (fun k hk e => hngf (by rw [← e]; exact hk))
  have hFlo : ∀ k, F k → k < wd.heap.size := fun k hk => (HD0.out.lo k hk).2
  have hs1 := hb1.size
  have hne2 : ∀ k, OwnB wd.heap.size w1 (.slice ao1 8 cap1) hd8 → (Value.slice ao1 8 cap1).ownBlock = some k → wd.heap.size ≤ k := fun k h hk => (World.ownsRow.lt h k hk).1
  have hgfl : gf < wd.heap.size := (HL0.out.lo gf (HL0.out.gf gf rfl)).2
  have hown1' : OwnB wd.heap.size w2 (.slice ao1 8 cap1) hd8 := own_of_block hown1 (fun k hk => hf2.block k (World.ownsRow.lt hown1 k hk).2 (fun e => by have := hne2 k hown1 hk; omega))
  have HL2 : Hid (LogIn base w2 G g (.pointer (some ⟨dg, 0, none⟩)) (.slice (some ⟨gf, 0, none⟩) (sizeL recs) capf) (.slice (some ⟨gr, 0, none⟩) recs.length capr) { LSof first m recs fl with fr := blank (frames recs) A }) := hL2
  have hF12 : Fr wd w2 (fun k => F k ∨ G k) := (Fr.of_below (F := fun k => F k ∨ G k) hb1).trans hf2 (fun i hi => Or.inl (Or.inr (by rw [hi]; exact hL1.gf gf rfl)))
  have hcn : cnt128 (sizeL recs) ≤ m := by unfold cnt128; omega
  obtain ⟨lead1, hlead1⟩ : ∃ l : Nat, (lead : Int) + 1 = (l : Int) := ⟨lead + 1, by omega⟩
  have hll : lead < m := by omega
  have hP3 := lay_post hD2 ⟨g, _, _, rfl, hL2⟩ hd lead (cnt128 (sizeL recs)) hcn (by show lead ≤ m; omega) hsz (by omega)
  have HP3 : Hid (Calls Try.prog 37 #[.pointer (some ⟨g, 0, none⟩), .int .i64 lead, .int .i64 (cnt128 (sizeL recs) : Nat)] w2 fun e w' => e = .returned (.tuple #[]) ∧ ∃ F', DPost base w2 w' F F' (.pointer (some ⟨dg, 0, none⟩)) n (D.lay first (blank (frames recs) A) lead (cnt128 (sizeL recs)))) := hP3
  obtain ⟨b0, b1, b2, b3, b4, b5, bz⟩ := cells6 hL2.hg
  clear c0 c1 c2 c3 c4 c5 fz hL1 hD1 hL2 hD2 hown2 hP3 hown1 hne2
  go_wp2_with (first
    | (go_at_call 38; refine (sectorsFor_any (sizeL recs) _ (by omega)).mono ?_; rintro e wx ⟨rfl, hwx⟩; subst hwx)
    | (go_at_call 37; refine HP3.out.mono ?_; rintro e w3 ⟨rfl, F3, hP3⟩))
  have hL3 : LogIn base w3 G g _ _ _ { LSof first m recs fl with fr := blank (frames recs) A } := HL2.out.keep hP3.f (fun k hk hf => hd k hf hk)
  have hd3 := hP3.apart hd (fun k hk => (HL2.out.lo k hk).2)
  have hs2 := hF12.size
  have hB3 : OwnB wd.heap.size w3 (.slice ao1 8 cap1) hd8 := own_of_block hown1' (fun k hk => hP3.f.block k (World.ownsRow.lt hown1' k hk).2 (fun e => by have := hFlo k e; have := (World.ownsRow.lt hown1' k hk).1; omega))
  obtain ⟨w4, hcpy, hown4, hf4⟩ := run_copy8 A (capf - A) hL3.fr (by show A + 8 ≤ (blank (frames recs) A).length; rw [blank_len hA8]; exact hA8) hhl (.slice ao1 8 cap1) hB3.toBytes
  have hcpy3 : (Builtin.copy_ #[36, 36] 3 #[.slice (some ⟨gf, A, none⟩) 8 (capf - A), .slice ao1 8 cap1]).run Try.prog w3 = .ok (.int .i64 8) w4 := hcpy 3
  clear hcpy
  have e4 : (blank (frames recs) A).take A ++ (hd8 ++ (blank (frames recs) A).drop (A + 8)) = frames recs := by rw [← HHD.out]; exact blank_back (frames recs) A hA8
  have hown4' : OwnB base w4 (.slice (some ⟨gf, 0, none⟩) (sizeL recs) capf) (frames recs) := by rw [← e4]; exact hown4
  have hL4 := hL3.putFr (gf := gf) rfl hf4 hown4' hle'
  have hngf3 : ¬ F3 gf := fun h => hd3 gf h (hL3.gf gf rfl)
  have hng3 : ¬ F3 g := fun h => hd3 g h hL3.gg
  have hD4 : DiskAt base w4 F3 (.pointer (some ⟨dg, 0, none⟩)) n (D.lay first (blank (frames recs) A) lead (cnt128 (sizeL recs))) := hP3.d.keep hf4 (fun k hk e => hngf3 (by rw [← e]; exact hk))
  have HL4 : Hid (LogIn base w4 G g (.pointer (some ⟨dg, 0, none⟩)) (.slice (some ⟨gf, 0, none⟩) (sizeL recs) capf) (.slice (some ⟨gr, 0, none⟩) recs.length capr) (LSof first m recs fl)) := hL4
  have hF14 : Fr wd w4 (fun k => F k ∨ G k) := (hF12.trans hP3.f (fun i hi => Or.inl (Or.inl hi))).trans hf4 (fun i hi => Or.inl (Or.inr (by rw [hi]; exact hL3.gf gf rfl)))
  have hP5 := lay_post hD4 ⟨g, _, _, rfl, HL4.out⟩ hd3 lead lead1 (by show lead1 ≤ m; omega) (by show lead ≤ m; omega) hsz (by rw [lay_ws]; omega)
  have hO3 := hP3.o
  have HP5 : Hid (Calls Try.prog 37 #[.pointer (some ⟨g, 0, none⟩), .int .i64 lead, .int .i64 lead1] w4 fun e w' => e = .returned (.tuple #[]) ∧ ∃ F', DPost base w4 w' F3 F' (.pointer (some ⟨dg, 0, none⟩)) n ((D.lay first (blank (frames recs) A) lead (cnt128 (sizeL recs))).lay first (frames recs) lead lead1)) := hP5
  clear b0 b1 b2 b3 b4 b5 bz hL3 hL4 hD4 hown4 hown4' e4 hP5 hP3 hB3 hown1' hclr
  go_wp2
  rw [hcpy3]
  simp only [Result.andThen]
  rw [Oper.upon_value]
  clear hcpy3
  go_wp2_with fail
  refine HP5.out.mono ?_
  rintro e w5 ⟨rfl, F5, hP5⟩
  have hL5 : LogIn base w5 G g _ _ _ (LSof first m recs fl) := HL4.out.keep hP5.f (fun k hk hf => hd3 k hf hk)
  obtain ⟨b0, b1, b2, b3, b4, b5, bz⟩ := cells6 hL5.hg
  obtain ⟨hL6, hF6⟩ := hL5.setFl recs.length (by show recs.length ≤ (spans recs).length; rw [spans_len]; exact Nat.le_refl _)
  have HFIN : Hid (∃ F', Flushed base w (w5.setCell ⟨g, 5, none⟩ (.int .i64 recs.length)) F F' G (.pointer (some ⟨dg, 0, none⟩)) (.pointer (some ⟨g, 0, none⟩)) n (D.flush first A (frames recs)) (LSof first m recs recs.length)) := by
    have hd5 := hP5.apart hd3 (fun k hk => (HL4.out.lo k hk).2)
    have hs4 := hF14.size
    have hs0 := hbd.size
    have hEq : D.flush first A (frames recs) = ((D.lay first (blank (frames recs) A) lead (cnt128 (sizeL recs))).lay first (frames recs) lead lead1) := by
      unfold DS.flush
      rw [hlead]
      congr 1
      omega
    have hout : ∀ k, F5 k → F k ∨ wd.heap.size ≤ k := fun k hk => by
      rcases hP5.o k hk with h | h
      · rcases hO3 k h with h | h
        · exact Or.inl h
        · right; omega
      · right; omega
    refine ⟨F5, ?_, ⟨g, _, _, rfl, hL6⟩, ?_, fun k hk => ?_⟩
    · rw [hEq]
      exact hP5.d.keep hF6 (fun k hk hg => hd5 k hk hg)
    · refine ((Fr.of_below (F := fun k => F k ∨ G k) hbd).trans hF14 (fun i hi => Or.inl hi)).trans ((hP5.f.mono (G := fun k => F3 k ∨ G k) (fun k hk => Or.inl hk)).trans hF6 (fun i hi => Or.inl (Or.inr hi))) ?_
      intro i hi
      rcases hi with hi | hi
      · rcases hO3 i hi with h | h
        · exact Or.inl (Or.inl h)
        · right; omega
      · exact Or.inl (Or.inr hi)
    · rcases hout k hk with h | h
      · exact Or.inl h
      · right; omega
  clear hL5 hL6 hF6
  go_wp2
  go_ret
  exact ⟨rfl, HFIN.out⟩
end Go.Proofs.Ytcjoolmlobjpbaa
