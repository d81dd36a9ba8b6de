/- Package wal: taker, Open. -/
import Derived.Test.YtcjoolmlobjpbaaW6I
namespace Go.Proofs.Ytcjoolmlobjpbaa
open Go.RowKit Go.Maps
set_option linter.unusedVariables false
set_option linter.unusedSimpArgs false

theorem four_new (w : World) (a b c d : Obj) : ((((w.alloc a).alloc b).alloc c).alloc d).heap[w.heap.size]? = some a ∧ ((((w.alloc a).alloc b).alloc c).alloc d).heap[w.heap.size + 1]? = some b ∧ ((((w.alloc a).alloc b).alloc c).alloc d).heap[w.heap.size + 1 + 1]? = some c ∧ ((((w.alloc a).alloc b).alloc c).alloc d).heap[w.heap.size + 1 + 1 + 1]? = some d ∧ ((((w.alloc a).alloc b).alloc c).alloc d).heap.size = w.heap.size + 4 := by
  have b1 : ∀ (u : World) (o : Obj) k, k < u.heap.size → (u.alloc o).heap[k]? = u.heap[k]? := fun u o k hk => ((Below.refl u.heap.size u).alloc (Nat.le_refl _) o).block k hk
  refine ⟨?_, ?_, ?_, ?_, ?_⟩
  · rw [b1 _ _ _ (by simp; try omega), b1 _ _ _ (by simp; try omega), b1 _ _ _ (by simp; try omega)]; exact new_at _ _ rfl
  · rw [b1 _ _ _ (by simp; try omega), b1 _ _ _ (by simp; try omega)]; exact new_at _ _ (by simp)
  · rw [b1 _ _ _ (by simp)]; exact new_at _ _ (by simp)
  · exact new_at _ _ (by simp)
  · simp
set_option maxHeartbeats 1000000 in
theorem taker_any (base : Nat) (dg : Nat) (first : Nat) (m : Nat) (w : World) (hb : base ≤ w.heap.size) (hf : first ≤ 4096) (hm : m ≤ 1024) :
    Calls Try.prog 31 #[.pointer (some ⟨dg, 0, none⟩), .int .i64 first, .int .i64 m] w fun e w' => ∃ gh gn ge gd, e = .returned (.func (.func 45) #[] #[.pointer (some ⟨gh, 0, none⟩), .pointer (some ⟨gn, 0, none⟩), .pointer (some ⟨ge, 0, none⟩), .pointer (some ⟨gd, 0, none⟩)]) ∧ Tk base w' (fun k => w.heap.size ≤ k ∧ k < w'.heap.size) gh gn ge gd (.pointer (some ⟨dg, 0, none⟩)) (.slice none 0 0) [] first (first + m) ∧ Below w.heap.size w w' := by
  go_enter Try.func31, Try.ntmps31
  go_wp2
  go_ret
  obtain ⟨h0, h1, h2, h3, hs⟩ := four_new w (.cells #[.pointer (some ⟨dg, 0, none⟩)] 25) (.cells #[.int .i64 (first : Int)] 3) (.cells #[.int .i64 ((first : Int) + (m : Int))] 3) (.cells #[.slice none 0 0] 36)
  refine ⟨w.heap.size + 1 + 1 + 1, w.heap.size + 1, w.heap.size + 1 + 1, w.heap.size, rfl, ?_, ((((Below.refl _ _).alloc (Nat.le_refl _) _).alloc (by simp) _).alloc (by simp; omega) _).alloc (by simp; omega) _⟩
  exact {
    hh := h3
    hn := h1
    he := h2
    hd := h0
    sl := Or.inl ⟨rfl, rfl⟩
    th := by rw [hs]; omega
    tn := by rw [hs]; omega
    te := by rw [hs]; omega
    td := by rw [hs]; omega
    ts := fun k hk => by cases hk
    ne := by omega
    lo := fun k hk => ⟨by omega, hk.2⟩
    nxen := by omega
    hlen := by simp }
def cellLen (w : World) (g o : Nat) : Nat := match w.cell? ⟨g, o, none⟩ with | some (.slice _ n _) => n | _ => 0
/-- Where Open stands: the log's records so far, the next one, what is still to be taken. -/
structure OpMid (base : Nat) (w wr : World) (G T : Nat → Prop) (g : Nat) (gh gn ge gd : Nat) (p : Value) (first : Int) (n en : Nat) (D : DS) (all : List UInt8) (recs : List (List UInt8)) (rv : Value) : Prop where
  log : LogAt base wr G (.pointer (some ⟨g, 0, none⟩)) p (LSof first n recs 0)
  b : Below w.heap.size w wr
  gnew : ∀ k, G k → w.heap.size ≤ k
  oks : ∀ r ∈ recs, OkR r
  cur : (rv = .slice none 0 0 ∧ ∃ rest, all = frames recs ++ rest ∧ NoFrame rest) ∨ (∃ r s a cap sv held nx, rv = .slice (some a) r.length cap ∧ OkR r ∧ all = frames recs ++ (frame r ++ s) ∧ Bytes wr rv r ∧ T a.block ∧ Tk base wr T gh gn ge gd p sv held nx en ∧ still D held nx en = s ∧ (∀ k, T k → ¬ G k) ∧ ∀ k, T k → w.heap.size ≤ k)
theorem op_next {base : Nat} {w w1 w2 : World} {G T : Nat → Prop} {g gh gn ge gd : Nat} {p sv : Value} {first : Int} {n en : Nat} {D : DS} {all s held : List UInt8} {nx : Nat} {recs : List (List UInt8)} {e : Ending} (hL : LogAt base w1 G (.pointer (some ⟨g, 0, none⟩)) p (LSof first n recs 0)) (hb : Below w.heap.size w w1) (hg : ∀ k, G k → w.heap.size ≤ k) (hoks : ∀ r ∈ recs, OkR r) (hT : Tk base w1 T gh gn ge gd p sv held nx en) (ha : all = frames recs ++ s) (hdj : ∀ k, T k → ¬ G k) (hTn : ∀ k, T k → w.heap.size ≤ k) (h : NextOut base w1 T gh gn ge gd p en D s e w2) :
    ∃ rv T', e = .returned rv ∧ (∃ ao n c, rv = .slice ao n c) ∧ OpMid base w w2 G T' g gh gn ge gd p first n en D all recs rv := by
  rcases h with ⟨r, s', a, cap, sv', held', nx', T', hs, hr, he, hB, hTa, hM⟩ | ⟨hno, he, hf⟩
  · have hb2 : Below w.heap.size w w2 := hb.trans (hM.f.below hb.size hTn)
    have hTn' : ∀ k, T' k → w.heap.size ≤ k := fun k hk => by
      rcases hM.o k hk with h | h
      · exact hTn k h
      · have := hb.size; omega
    have hdj' : ∀ k, T' k → ¬ G k := fun k hk hgk => by
      rcases hM.o k hk with h | h
      · exact hdj k h hgk
      · have := (hL.lo k hgk).2; omega
    exact ⟨_, T', he, ⟨_, _, _, rfl⟩, hL.keep hM.f (fun k hk ht => hdj k ht hk), hb2, hg, hoks, Or.inr ⟨r, s', a, cap, sv', held', nx', rfl, hr, by rw [ha, hs], hB, hTa, hM.t, hM.a, hdj', hTn'⟩⟩
  · exact ⟨_, T, he, ⟨_, _, _, rfl⟩, hL.keep hf (fun k hk ht => hdj k ht hk), hb.trans (hf.below hb.size hTn), hg, hoks, Or.inl ⟨rfl, s, ha, hno⟩⟩
theorem cellLen_of {base : Nat} {w : World} {G : Nat → Prop} {g : Nat} {p : Value} {L : LS} (h : LogAt base w G (.pointer (some ⟨g, 0, none⟩)) p L) : cellLen w g 3 = L.fr.length := by
  obtain ⟨g', vf, vr, hp, h⟩ := h
  cases hp
  obtain ⟨ao, cap, hv, _⟩ := h.fr.toBytes.form
  unfold cellLen
  rw [(cells6 h.hg).c3, hv]
theorem LogIn.setFl {base : Nat} {w : World} {G : Nat → Prop} {g : Nat} {pd vf vr : Value} {L : LS} (h : LogIn base w G g pd vf vr L) (k : Nat) (hk : k ≤ L.sp.length) :
    LogIn base (w.setCell ⟨g, 5, none⟩ (.int .i64 k)) G g pd vf vr { L with fl := k } ∧ Fr w (w.setCell ⟨g, 5, none⟩ (.int .i64 k)) G := by
  have hset := setCell_eq_setRow w g 5 _ _ _ (.int .i64 (k : Int)) h.hg
  have hfs : Fr w (w.setCell ⟨g, 5, none⟩ (.int .i64 k)) (fun k => k = g) := fr_set _ _ _ _
  exact ⟨{ h with
    hg := by rw [hset, setRow_heap w g _ _ _ _ h.hg]; rfl
    fr := own_of_block h.fr (fun i hi => hfs.block i (h.lo i (h.gf i hi)).2 (fun e => h.nf (by rw [← e]; exact hi)))
    sp := own_of_block h.sp (fun i hi => hfs.block i (h.lo i (h.gr i hi)).2 (fun e => h.nr (by rw [← e]; exact hi)))
    lo := fun i hi => ⟨(h.lo i hi).1, Nat.lt_of_lt_of_le (h.lo i hi).2 hfs.size⟩
    fll := hk }, hfs.mono (fun i hi => by rw [hi]; exact h.gg)⟩
/-- What Open leaves. -/
def OpenOut (base : Nat) (w : World) (F : Nat → Prop) (p : Value) (n : Nat) (D : DS) (first : Int) (m : Nat) (e : Ending) (w' : World) : Prop :=
  ∃ (recs : List (List UInt8)) (g : Nat) (F' G : Nat → Prop), e = .returned (.tuple #[.pointer (some ⟨g, 0, none⟩), .int .i64 0]) ∧ Parses (reg D.now first m) recs ∧ Opened base w w' F F' G p (.pointer (some ⟨g, 0, none⟩)) n (D.settle first m (frames recs)) (LSof first m recs recs.length)
theorem nil_neq (w : World) (ao : Option Addr) (n c : Nat) : (binOp .neq 36 (.slice ao n c) (.slice none 0 0)).run Try.prog w = .ok (.bool (!ao.isNone)) w := by
  simp only [binOp]
  simp [Op.equal, Op.maxDepth, Lib.run_equalIn_slice_nil w 9999 36 5 ao n c 0 0 Try.underlying36]
set_option maxRecDepth 10000 in
set_option maxHeartbeats 4000000 in
theorem open_ok {base : Nat} {w : World} {F : Nat → Prop} {p : Value} {n : Nat} {D : DS} (hD : DiskAt base w F p n D) (hls : ∀ i, (D.now i).length = 128) (first m : Nat) (h2 : 1 ≤ m ∧ m ≤ 1024) (h3 : (first : Int) + m ≤ D.size) (hcnt : n + D.ws.length + m + 1 < 100000) :
    Calls Try.prog 13 #[p, .int .i64 first, .int .i64 m] w (OpenOut base w F p n D first m) := by
  have hz : 0 ≤ D.size ∧ D.size ≤ 4096 := by obtain ⟨_, _, _, _, _, h⟩ := hD; exact h.sz
  have hbase : base ≤ w.heap.size := by obtain ⟨g, _, _, _, _, h⟩ := hD; have := h.lo g h.fg; omega
  have hck := check_fit hD first m (by omega) (by omega) (by omega) (by omega)
  rw [if_neg (by omega)] at hck
  have HLO : Hid (∀ k, F k → k < w.heap.size) := fun k hk => (hD.lo k hk).2
  have HD : Hid (DiskAt base w F p n D) := hD
  have HLS : Hid (∀ i, (D.now i).length = 128) := hls
  have hlog := log_new base w p first m ⟨by omega, by omega⟩ h2 hbase
  have hE : reg D.now first m = still D [] first (first + m) := by unfold still; rw [Nat.add_sub_cancel_left]; rfl
  have hall : (still D [] first (first + m)).length = 128 * m := by rw [← hE, reg_len hls]
  have HE : Hid (reg D.now first m = still D [] first (first + m)) := hE
  have HAL : Hid ((still D [] first (first + m)).length = 128 * m) := hall
  obtain ⟨dg, _, _, _, rfl, _⟩ := hD
  have HLog : Hid (LogIn base _ (fun k => k = w.heap.size) w.heap.size _ _ _ (LSof first m [] 0)) := hlog
  clear hlog hls hE hall
  have hq := nil_neq
  go_enter Try.func13, Try.ntmps13
  go_wp2_with (first
    | (go_at_call 29; refine hck.mono ?_; rintro e wx ⟨rfl, hwx⟩; subst hwx))
  have ha : Below wx.heap.size wx (wx.alloc (.cells #[.pointer (some ⟨dg, 0, none⟩), .int .i64 (first : Int), .int .i64 (m : Int), .slice none 0 0, .slice none 0 0, .int .i64 0] 66)) := (Below.refl _ _).alloc (Nat.le_refl _) _
  refine (taker_any base dg first m _ (by simp; omega) (by omega) h2.2).mono ?_
  rintro e w1 ⟨gh, gn, ge, gd, rfl, hT1, hb1⟩
  have hL1 : LogAt base w1 (fun k => k = wx.heap.size) (.pointer (some ⟨wx.heap.size, 0, none⟩)) (.pointer (some ⟨dg, 0, none⟩)) (LSof first m [] 0) := LogAt.keepB ⟨_, _, _, rfl, HLog.out⟩ hb1
  have hb1' : Below wx.heap.size wx w1 := ha.trans (hb1.mono ha.size)
  have hD1 := HD.out.keepB hb1'
  have hn1 := next_any hD1 hT1 (fun k hk ht => by have := HLO.out k hk; have := ht.1; simp at this; omega) (by omega) HLS.out
  have HN1 : Hid (∀ e w2, NextOut base w1 _ gh gn ge gd (.pointer (some ⟨dg, 0, none⟩)) (first + m) D (still D [] first (first + m)) e w2 → ∃ rv T', e = .returned rv ∧ (∃ ao n c, rv = .slice ao n c) ∧ OpMid base wx w2 (fun k => k = wx.heap.size) T' wx.heap.size gh gn ge gd (.pointer (some ⟨dg, 0, none⟩)) first m (first + m) D (still D [] first (first + m)) [] rv) := fun e w2 ho => op_next hL1 hb1' (fun k hk => by rw [hk]; exact Nat.le_refl _) (by simp) hT1 (by simp [frames]) (fun k hk hg => by have := hk.1; simp at this; omega) (fun k hk => by have := hk.1; simp at this; omega) ho
  clear hL1 hT1 hb1
  go_wp2_with fail
  refine hn1.mono ?_
  intro e w2 ho
  obtain ⟨rv, T', he, ⟨ao, rn, rc, hrv⟩, hM⟩ := HN1.out e w2 ho
  subst he hrv
  have HM : Hid (OpMid base wx w2 (fun k => k = wx.heap.size) T' wx.heap.size gh gn ge gd (.pointer (some ⟨dg, 0, none⟩)) first m (first + m) D (still D [] first (first + m)) [] (.slice ao rn rc)) := hM
  clear hM HN1 hn1 ho hD1 hb1' ha
  go_wp2
  go_loopw [11] (fun rv wr => ∃ (ao : Option Addr) (rn rc : Nat) (G T : Nat → Prop) (recs : List (List UInt8)), rv = .slice ao rn rc ∧ Hid (OpMid base wx wr G T wx.heap.size gh gn ge gd (.pointer (some ⟨dg, 0, none⟩)) first m (first + m) D (still D [] first (first + m)) recs (.slice ao rn rc))) (fun _ wr => 128 * m + 1 - cellLen wr wx.heap.size 3)
  case atStart => exact ⟨ao, rn, rc, _, T', [], rfl, HM⟩
  case round =>
    obtain ⟨ao, rn, rc, G, T, recs, rfl, HM⟩ := hrel
    have HDr : Hid (DiskAt base wr F (.pointer (some ⟨dg, 0, none⟩)) n D) := HD.out.keepB HM.out.b
    rcases HM.out.cur with ⟨hnil, rest, hrest, hno⟩ | ⟨r, s, a, cap, sv, held, nx, hrv, hr, hs, hB, hTa, hT, hst, hdj, hTn⟩
    · cases hnil
      have HP : Hid (Parses (reg D.now first m) recs) := ⟨rest, by rw [HE.out]; exact hrest, HM.out.oks, hno⟩
      obtain ⟨g0, vf, vr, hg0, hLI⟩ := HM.out.log
      cases hg0
      obtain ⟨c0, c1, c2, c3, c4, c5, fz⟩ := cells6 hLI.hg
      obtain ⟨aor, capr, hvr, hcr⟩ := hLI.sp.form
      have hvr' : vr = .slice aor recs.length capr := by rw [hvr]; show Value.slice aor (spans recs).length capr = _; rw [spans_len]
      subst hvr'
      obtain ⟨hL5, hF5⟩ := hLI.setFl recs.length (by show recs.length ≤ (spans recs).length; rw [spans_len]; exact Nat.le_refl _)
      have hb5 : Below wx.heap.size wx _ := HM.out.b.trans (hF5.below HM.out.b.size HM.out.gnew)
      have hdj5 : ∀ k, F k → ¬ G k := fun k hk hg => by have := HLO.out k hk; have := HM.out.gnew k hg; omega
      have hL5' : LogAt base _ G (.pointer (some ⟨wx.heap.size, 0, none⟩)) (.pointer (some ⟨dg, 0, none⟩)) (LSof first m recs recs.length) := ⟨_, _, _, rfl, hL5⟩
      have hst := settle_any (HD.out.keepB hb5) hL5' hdj5 h3 hcnt
      have HST : Hid (Calls Try.prog 30 #[.pointer (some ⟨wx.heap.size, 0, none⟩)] (wr.setCell ⟨wx.heap.size, 5, none⟩ (.int .i64 recs.length)) fun e w' => e = .returned (.tuple #[]) ∧ ∃ F', Opened base wx w' F F' G (.pointer (some ⟨dg, 0, none⟩)) (.pointer (some ⟨wx.heap.size, 0, none⟩)) n (D.settle first m (frames recs)) (LSof first m recs recs.length)) := by
        refine hst.mono ?_
        rintro e w' ⟨he, F', hP⟩
        refine ⟨he, F', ⟨hP.d, (Fr.of_below (F := F) hb5).trans hP.f (fun i hi => Or.inl hi), fun k hk => ?_⟩, hL5'.keep hP.f (fun k hk hf => hdj5 k hf hk), hP.apart hdj5 (fun k hk => (hL5'.lo k hk).2), HM.out.gnew⟩
        rcases hP.o k hk with h | h
        · exact Or.inl h
        · right; have := hb5.size; omega
      clear hst hL5 hL5' hF5 hb5 hdj5 hLI hrest hno hvr hcr c1 c2 c3
      go_wp2_with (first | (go_at_call 30; refine HST.out.mono ?_; rintro e w6 ⟨rfl, F6, hO⟩))
      exact bodyPost_ret (v := .tuple #[.pointer (some ⟨_, 0, none⟩), .int .i64 0]) (by simp [results, Try.results13, go_sem]) rfl ⟨recs, _, F6, G, rfl, HP.out, hO⟩
    · cases hrv
      have hlen := congrArg List.length hs
      rw [HAL.out, List.length_append, List.length_append, frame_len] at hlen
      have hszl : sizeL recs = (frames recs).length := rfl
      have h16 := sizeL_len recs HM.out.oks
      have hadd := add_any HM.out.log (.slice (some a) r.length rc) r hB (fun a' n' c' e hg => by cases e; exact hdj _ hTa hg) hr (by show (frames recs).length + 8 + rnd r.length ≤ 128 * m; omega) (by show (spans recs).length < 10000; rw [spans_len]; omega)
      rw [LSof_snoc] at hadd
      have HCL : Hid (cellLen wr wx.heap.size 3 = sizeL recs) := cellLen_of HM.out.log
      have HA : Hid (∀ (e : Ending) (w' : World), (e = Ending.returned (.tuple #[]) ∧ ∃ G', LogAt base w' G' (.pointer (some ⟨wx.heap.size, 0, none⟩)) (.pointer (some ⟨dg, 0, none⟩)) (LSof first m (recs ++ [r]) 0) ∧ Fr wr w' G ∧ ∀ k, G' k → G k ∨ wr.heap.size ≤ k) → e = Ending.returned (.tuple #[]) ∧ ∃ G', LogAt base w' G' (.pointer (some ⟨wx.heap.size, 0, none⟩)) (.pointer (some ⟨dg, 0, none⟩)) (LSof first m (recs ++ [r]) 0) ∧ Below wx.heap.size wx w' ∧ (∀ k, G' k → wx.heap.size ≤ k) ∧ (∀ k, T k → ¬ G' k) ∧ Tk base w' T gh gn ge gd (.pointer (some ⟨dg, 0, none⟩)) sv held nx (first + m)) := by
        rintro e w' ⟨he, G', hL', hf', ho'⟩
        refine ⟨he, G', hL', HM.out.b.trans (hf'.below HM.out.b.size HM.out.gnew), fun k hk => ?_, fun k hk hg => ?_, hT.keep hf' hdj⟩
        · rcases ho' k hk with h | h
          · exact HM.out.gnew k h
          · have := HM.out.b.size; omega
        · rcases ho' k hg with h | h
          · exact hdj k hk h
          · have := (hT.lo k hk).2; omega
      have HADD : Hid (Calls Try.prog 33 #[.pointer (some ⟨wx.heap.size, 0, none⟩), .slice (some a) r.length rc] wr fun e w' => e = .returned (.tuple #[]) ∧ ∃ G', LogAt base w' G' (.pointer (some ⟨wx.heap.size, 0, none⟩)) (.pointer (some ⟨dg, 0, none⟩)) (LSof first m (recs ++ [r]) 0) ∧ Below wx.heap.size wx w' ∧ (∀ k, G' k → wx.heap.size ≤ k) ∧ (∀ k, T k → ¬ G' k) ∧ Tk base w' T gh gn ge gd (.pointer (some ⟨dg, 0, none⟩)) sv held nx (first + m)) := hadd.mono HA.out
      have HOK : Hid (∀ x ∈ recs ++ [r], OkR x) := fun x hx => by
        rcases List.mem_append.1 hx with h | h
        · exact HM.out.oks x h
        · simp at h; rw [h]; exact hr
      have HS : Hid (still D [] first (first + m) = frames (recs ++ [r]) ++ still D held nx (first + m)) := by
        show _ = _
        rw [hst, hs, frames_snoc, List.append_assoc]
      have HSZ : Hid (sizeL (recs ++ [r]) = sizeL recs + 8 + rnd r.length ∧ sizeL (recs ++ [r]) ≤ 128 * m) := by
        refine ⟨sizeL_snoc recs r, ?_⟩
        rw [sizeL_snoc]; omega
      have HTn : Hid (∀ k, T k → wx.heap.size ≤ k) := hTn
      clear hadd HA hB hTa hT hst hdj hTn hlen hszl h16 hs
      go_wp2_with fail
      refine HADD.out.mono ?_
      rintro e w3 ⟨rfl, G3, hL3, hb3, hg3, hdj3, hT3⟩
      have hD3 := HD.out.keepB hb3
      have hn3 := next_any hD3 hT3 (fun k hk ht => by have := HLO.out k hk; have := HTn.out k ht; omega) (by omega) HLS.out
      have HN3 : Hid (∀ e w4, NextOut base w3 T gh gn ge gd (.pointer (some ⟨dg, 0, none⟩)) (first + m) D (still D held nx (first + m)) e w4 → ∃ rv T', e = .returned rv ∧ (∃ ao n c, rv = .slice ao n c) ∧ OpMid base wx w4 G3 T' wx.heap.size gh gn ge gd (.pointer (some ⟨dg, 0, none⟩)) first m (first + m) D (still D [] first (first + m)) (recs ++ [r]) rv) := fun e w4 ho => op_next hL3 hb3 hg3 HOK.out hT3 HS.out hdj3 HTn.out ho
      clear hL3 hb3 hg3 hdj3 hT3 hD3 HADD HOK HS
      go_wp2_with fail
      refine hn3.mono ?_
      intro e w4 ho
      obtain ⟨rv4, T4, he4, ⟨ao4, rn4, rc4, hrv4⟩, hM4⟩ := HN3.out e w4 ho
      subst he4 hrv4
      have HM4 : Hid (OpMid base wx w4 G3 T4 wx.heap.size gh gn ge gd (.pointer (some ⟨dg, 0, none⟩)) first m (first + m) D (still D [] first (first + m)) (recs ++ [r]) (.slice ao4 rn4 rc4)) := hM4
      have HC4 : Hid (cellLen w4 wx.heap.size 3 = sizeL (recs ++ [r])) := cellLen_of hM4.log
      clear hn3 HN3 ho hM4
      go_wp2
      refine ⟨⟨ao4, rn4, rc4, G3, T4, recs ++ [r], rfl, HM4⟩, ?_⟩
      rw [HC4.out, HCL.out]
      have := HSZ.out
      omega
end Go.Proofs.Ytcjoolmlobjpbaa
