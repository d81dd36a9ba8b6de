/- The document's heap: Insert (for HeapPlays). -/
import Derived.Test.YtkmgahembhgloaaH8ZE
namespace Go.Proofs.Ytkmgahembhgloaa
open Go.RowKit Go.Maps
set_option linter.unusedVariables false
set_option linter.unusedSimpArgs false

/-- append, to a page, of one record more. -/
theorem wp_appP (w : World) {ops : Array Oper} {rest : List Oper} {o : Oper} {a : Act} {Q : Exit → Act → World → Prop} (hgd : o.guard = none) (s x : Operand)
    (ho : o.op = .call { callee := .builtin .append, args := #[s, x], argTypes := #[71, 71] })
    (base : Nat) (v : Value) (n : Nat) (vs : List Value) (hs : a.eval s = v) (hown : w.ownsRow base 30 1 v n vs) (Bk : Nat) (u : Value) (hx : a.eval x = .slice (some ⟨Bk, 0, none⟩) 1 1) (hB : w.heap[Bk]? = some (.cells #[u] 30 (0, 0))) (hu : u.oneCell' = true) (hl : n ≤ 1000000) (hbase : base ≤ w.heap.size)
    (h : ∀ g cap w', w'.ownsRow base 30 1 (.slice (some ⟨g, 0, none⟩) (n + 1) cap) (n + 1) (vs ++ [u]) → w.grownBy w' v.ownBlock → (v.ownBlock = some g ∨ w.heap.size ≤ g) → wpList Try.prog ops Q rest (a.put o.dst (.slice (some ⟨g, 0, none⟩) (n + 1) cap)) w') : wpList Try.prog ops Q (o :: rest) a w := by
  obtain ⟨i0, hi, hz0, hz1, hz2⟩ := info_parts infoS
  refine wpList_append_lies w hgd s x 71 ho base 30 i0 (.slice none 0 0) 1 24 Try.underlying71 hi hz0 hz1 hz2 rfl (by decide) v n vs hs hown ⟨Bk, 0, none⟩ 1 1 [u] hx rfl (World.news_of_block hB) (by intro y hy; simp at hy; rw [hy]; exact hu) (by decide) (by unfold maxLen; omega) (by omega) hbase w.heap.size rfl ?_
  intro g cap w' h1 h2 h3 _
  exact h g cap w' h1 h2 (h3.imp (fun e => e) (fun e => by omega))
/-- A record of its own, put behind a page's. -/
theorem RefIn.add {base : Nat} {w w1 w2 : World} {ro : Nat → Nat} {rg gp cap : Nat} {PV : Nat → Value} {VS : Nat → List Value} {n : Nat} {R : Nat → List (List UInt8)} (h : RefIn base w ro rg gp cap PV VS n R) (hbw : base ≤ w.heap.size) {k g cp : Nat} (hk : k < n) (hb1 : Below w.heap.size w w1) {vo : Option Addr} {vc : Nat} {b : List UInt8} (hown : OwnB base w1 (.slice vo b.length vc) b) (hnew : ∀ c, (Value.slice vo b.length vc).ownBlock = some c → w.heap.size ≤ c) (o : Obj)
    (hrow : w2.ownsRow base 30 1 (.slice (some ⟨g, 0, none⟩) ((R k).length + 1) cp) ((R k).length + 1) (VS k ++ [.slice vo b.length vc])) (hgr : (w1.alloc o).grownBy w2 (PV k).ownBlock) (hat : (PV k).ownBlock = some g ∨ (w1.alloc o).heap.size ≤ g) :
    RTo base w ro (.pointer (some ⟨rg, 0, none⟩)) n (upR R k (some (R k ++ [b]))) (w2.setCell ⟨gp, k, none⟩ (.slice (some ⟨g, 0, none⟩) ((R k).length + 1) cp)) := by
  have hbA : Below w1.heap.size w1 (w1.alloc o) := (Below.refl _ _).alloc (Nat.le_refl _) _
  have hb2 : Below w.heap.size w (w1.alloc o) := hb1.trans (hbA.mono hb1.size)
  have hs2 := hb2.size
  have h1 := h.keepB hb2
  have hf1 : Fr w (w1.alloc o) (fun i => ro i ≠ 0) := Fr.of_below hb2
  cases vo with
  | none =>
    obtain ⟨h2, hf2⟩ := h1.push hk (hown.toBytes.keep hbA) (fun a ha => by cases ha) hrow hgr hat (Nat.le_trans hbw hs2)
    refine ⟨_, ⟨rg, gp, cap, _, _, rfl, h2⟩, hf1.trans hf2 (fun i hi => Or.inl hi), fun i hi => ?_⟩
    by_cases e : i = g
    · rcases hat with q | q
      · exact Or.inl (by rw [e, h.pr k hk g q]; omega)
      · exact Or.inr (by omega)
    · exact Or.inl (by simpa [e] using hi)
  | some a =>
    have hl := World.ownsRow.lt hown a.block rfl
    have hn := hnew a.block rfl
    have h0 : ro a.block = 0 := h.hz _ hn
    have hlA := hbA.size
    obtain ⟨h2, hf2⟩ := (h1.mark a.block 3 h0 hl.1 (by omega)).push hk (hown.toBytes.keep hbA) (fun a' ha => by cases ha; exact if_pos rfl) hrow hgr hat (Nat.le_trans hbw hs2)
    refine ⟨_, ⟨rg, gp, cap, _, _, rfl, h2⟩, hf1.trans hf2 (fun i hi => ?_), fun i hi => ?_⟩
    · by_cases e : i = a.block
      · exact Or.inr (by omega)
      · exact Or.inl (by simpa [e] using hi)
    · by_cases e : i = g
      · rcases hat with q | q
        · exact Or.inl (by rw [e, h.pr k hk g q]; omega)
        · exact Or.inr (by omega)
      · by_cases e' : i = a.block
        · exact Or.inr (by omega)
        · exact Or.inl (by simpa [e, e'] using hi)
theorem insE_at {n : Nat} {R : Nat → List (List UInt8)} {b : List UInt8} {k : Nat} (hl : ¬ (b.length = 0 ∨ b.length > 1500)) (hk : k < n) (h1 : fitsP (R k) b.length = true) (h2 : ∀ j, j < k → fitsP (R j) b.length = false) : insE n R b = ((k : Int) * 256 + (freeAt (R k) : Int), 0) ∧ insR n R b = upR R k (some (insP (R k) b)) := by
  unfold insE insR
  rw [if_neg hl, if_neg hl, firstFit_some hk h1 h2]
  exact ⟨rfl, rfl⟩
set_option maxRecDepth 100000 in
set_option maxHeartbeats 4000000 in
theorem refInsert_any {base : Nat} {w : World} {ro : Nat → Nat} {rv : Value} {n : Nat} {R : Nat → List (List UInt8)} (h : RefAt base w ro rv n R) (hbw : base ≤ w.heap.size) (hB : RBd n R) (v : Value) (b : List UInt8) (hv : Bytes w v b) (hbl : b.length ≤ 140737488355328) :
    Calls Try.prog 26 #[rv, v] w fun e w' => e = .returned (.tuple #[.int .i64 (insE n R b).1, .int .i64 (insE n R b).2]) ∧ RTo base w ro rv n (insR n R b) w' := by
  have HP : Hid (RefAt base w ro rv n R) := h
  obtain ⟨rg, gp, cap, PV, VS, rfl, h⟩ := h
  obtain ⟨ba, bc, rfl, _, _⟩ := hv.form
  by_cases hlong : b.length = 0 ∨ b.length > 1500
  · have HE2 : Hid (insE n R b = (0, 81) ∧ insR n R b = R) := ⟨by unfold insE; rw [if_pos hlong], by unfold insR; rw [if_pos hlong]⟩
    clear h hv
    generalize b.length = m at *
    rcases hlong with hm | hm
    · subst hm
      go_enter Try.func26, Try.ntmps26
      go_wp2_with fail
      refine bodyPost_ret (v := .tuple #[.int .i64 0, .int .i64 81]) (by simp [results, Try.results26, go_sem]) rfl ?_
      exact ⟨by rw [HE2.out.1], by rw [HE2.out.2]; exact RTo.same HP.out⟩
    · have t0 : ((m : Int) == 0) = false := by rw [beq_eq_false_iff_ne]; omega
      have t1 : decide ((m : Int) > 1500) = true := decide_eq_true (by omega)
      go_enter Try.func26, Try.ntmps26
      go_wp2_with fail
      refine bodyPost_ret (v := .tuple #[.int .i64 0, .int .i64 81]) (by simp [results, Try.results26, go_sem]) rfl ?_
      exact ⟨by rw [HE2.out.1], by rw [HE2.out.2]; exact RTo.same HP.out⟩
  · have hb0 : 0 < b.length := by omega
    have hb15 : b.length ≤ 1500 := by omega
    have c0 := h.rgCell
    have hcap := h.capLe
    have HI : Hid (RefIn base w ro rg gp cap PV VS n R) := h
    have HB : Hid (RBd n R) := hB
    have hnb := hB.le
    have ho := ref_own base _ _ w hv hb0 (by omega) hbw
    have t0 : ((b.length : Int) == 0) = false := by rw [beq_eq_false_iff_ne]; omega
    have t1 : decide ((b.length : Int) > 1500) = false := decide_eq_false (by omega)
    have HAT : Hid (∀ k, k < n → fitsP (R k) b.length = true → (∀ j, j < k → fitsP (R j) b.length = false) → insE n R b = ((k : Int) * 256 + (freeAt (R k) : Int), 0) ∧ insR n R b = upR R k (some (insP (R k) b))) := fun k h1 h2 h3 => insE_at hlong h1 h2 h3
    have HNO : Hid ((∀ j, j < n → fitsP (R j) b.length = false) → insE n R b = (0, 83) ∧ insR n R b = R) := fun h1 => by
      unfold insE insR
      rw [if_neg hlong, if_neg hlong, firstFit_none h1]
      exact ⟨rfl, rfl⟩
    obtain ⟨bl, hbl'⟩ : ∃ bl, b.length = bl := ⟨_, rfl⟩
    have HBL : Hid (b.length = bl) := hbl'
    rw [hbl'] at HAT HNO ho t0 t1 hb0 hb15 hbl ⊢
    clear hlong hv hbl' h hB
    go_enter Try.func26, Try.ntmps26
    go_wp2_with fail
    go_loopw [6] (fun i wr => ∃ k : Nat, i = .int .i64 k ∧ k ≤ n ∧ Hid (∀ j, j < k → fitsP (R j) bl = false) ∧ wr = w) (fun i _ => n - (intOf i).toNat)
    case atStart => exact ⟨0, rfl, Nat.zero_le _, fun j hj => by omega, rfl⟩
    case round =>
      obtain ⟨k, rfl, hk, HN, rfl⟩ := hrel
      by_cases hlt : k < n
      · have tk : decide ((k : Int) < (n : Int)) = true := decide_eq_true (by omega)
        obtain ⟨c1, _⟩ := HI.out.rowCell hlt
        obtain ⟨ao, cp, e, hcp, hcl⟩ := HI.out.page hlt
        rw [e] at c1
        have hfew := HB.out.few k hlt
        have hsum := HB.out.sum k hlt
        have hrecs : Recs wr (.slice ao (R k).length cp) (R k) := ⟨ao, cp, rfl, hcp, hcl⟩
        have hroom := roomP_bound hfew (show sumL (R k) ≤ 1000000 by omega)
        have hfr := refFree_any hrecs hfew
        have hrm := refRoom_any hrecs hfew (by omega)
        have hfle := freeAt_le (R k)
        have HE : Hid (PV k = .slice ao (R k).length cp) := e
        by_cases hfree : freeAt (R k) < (R k).length
        · have hfv : freeV (R k) = (freeAt (R k) : Int) := by unfold freeV; rw [if_pos hfree]
          rw [hfv] at hfr
          have HFT : Hid (fitsP (R k) bl = decide ((bl : Int) ≤ roomP (R k)) ∧ insP (R k) b = (R k).set (freeAt (R k)) b) := ⟨by unfold fitsP; rw [if_pos hfree], by unfold insP; rw [if_pos hfree]⟩
          rcases hcl with h0 | ⟨g, hao, hX⟩
          · rw [h0] at hfree; simp at hfree
          subst hao
          obtain ⟨g', cp', vo, vc, e', hc', c2, hby, fz⟩ := HI.out.slot hlt hfree
          rw [e] at e'
          cases e'
          have tf0 : decide ((freeAt (R k) : Int) ≥ 0) = true := decide_eq_true (by omega)
          have tf1 : decide ((freeAt (R k) : Int) < 0) = false := decide_eq_false (by omega)
          have hs2 : (freeAt (R k) : Int) < ((R k).length : Int) := by omega
          have HPUT : Hid (∀ (w1 : World) (vo : Option Addr) (vc : Nat), Below wr.heap.size wr w1 → OwnB base w1 (.slice vo bl vc) b → (∀ c, (Value.slice vo bl vc).ownBlock = some c → wr.heap.size ≤ c) → RTo base wr ro (.pointer (some ⟨rg, 0, none⟩)) n (upR R k (some ((R k).set (freeAt (R k)) b))) (w1.setCell ⟨g, freeAt (R k), none⟩ (.slice vo bl vc))) := fun w1 vo vc g1 g2 g3 => by
            have hB := HBL.out
            subst hB
            exact HI.out.put hlt hfree e g1 g2 g3
          have HC : Hid (∀ w', Below wr.heap.size wr w' → w'.cell? ⟨g, freeAt (R k), none⟩ = some (.slice vo (R k)[freeAt (R k)].length vc) ∧ w'.frozen? ⟨g, freeAt (R k), none⟩ = false) := fun w' hb' => ⟨(hb'.cell (World.block_lt_of_cell? wr _ c2)).trans c2, (hb'.frozen (p := ⟨g, freeAt (R k), none⟩) (World.block_lt_of_cell? wr _ c2)).trans fz⟩
          have HAK := HAT.out k hlt
          clear hX hrecs hfv HI HB HAT e c2 fz hby
          generalize (R k)[freeAt (R k)].length = fl at *
          by_cases hfit : (bl : Int) ≤ roomP (R k)
          · have tr : decide (roomP (R k) ≥ (bl : Int)) = true := decide_eq_true hfit
            obtain ⟨q1, q2⟩ := HAK (by rw [HFT.out.1]; exact decide_eq_true hfit) HN.out
            rw [HFT.out.2] at q2
            have HQ : Hid (insE n R b = ((k : Int) * 256 + (freeAt (R k) : Int), 0) ∧ insR n R b = upR R k (some ((R k).set (freeAt (R k)) b))) := ⟨q1, q2⟩
            clear q1 q2 HAK HFT HN HNO
            generalize roomP (R k) = rm at *
            generalize freeAt (R k) = s at *
            generalize (R k).length = m at *
            go_wp2_with (first
              | (go_at_call 52; refine hfr.mono ?_; clear hfr; rintro e wx ⟨rfl, hwx⟩; rw [hwx]; clear hwx wx)
              | (go_at_call 53; refine hrm.mono ?_; clear hrm; rintro e wx ⟨rfl, hwx⟩; rw [hwx]; clear hwx wx))
            refine ho.mono ?_
            clear ho
            rintro e w2 ⟨v', rfl, hown, hnew, hb2⟩
            obtain ⟨va, vcp, hv', _, _⟩ := hown.toBytes.form
            rw [HBL.out] at hv'
            subst hv'
            have HR : Hid (RTo base wr ro (.pointer (some ⟨rg, 0, none⟩)) n (upR R k (some ((R k).set s b))) (w2.setCell ⟨g, s, none⟩ (.slice va bl vcp))) := HPUT.out w2 va vcp hb2 hown hnew
            obtain ⟨c3, f3⟩ := HC.out w2 hb2
            clear hown hnew hb2 HPUT HC
            go_wp2_with fail
            refine bodyPost_ret (v := .tuple #[.int .i64 (256 * (k : Int) + (s : Int)), .int .i64 0]) (by simp [results, Try.results26, go_sem]) rfl ?_
            exact ⟨by rw [HQ.out.1, Int.mul_comm], by rw [HQ.out.2]; exact HR.out⟩
          · have tr : decide (roomP (R k) ≥ (bl : Int)) = false := decide_eq_false hfit
            have HS : Hid (∀ j, j < k + 1 → fitsP (R j) bl = false) := fun j hj => by
              by_cases e : j = k
              · subst e; rw [HFT.out.1]; exact decide_eq_false hfit
              · exact HN.out j (by omega)
            clear HAK HFT HN HNO HPUT HC ho
            generalize roomP (R k) = rm at *
            generalize freeAt (R k) = s at *
            generalize (R k).length = m at *
            go_wp2_with (first
              | (go_at_call 52; refine hfr.mono ?_; clear hfr; rintro e wx ⟨rfl, hwx⟩; rw [hwx]; clear hwx wx)
              | (go_at_call 53; refine hrm.mono ?_; clear hrm; rintro e wx ⟨rfl, hwx⟩; rw [hwx]; clear hwx wx))
            go_roundw
            case rel => exact ⟨k + 1, by go_num, by omega, HS, by trivial⟩
            case measure => simp [intOf]; omega
        · have hfe : freeAt (R k) = (R k).length := by omega
          have hfv : freeV (R k) = -1 := by unfold freeV; rw [if_neg hfree]
          rw [hfv] at hfr
          have HFT : Hid (fitsP (R k) bl = (decide ((R k).length < 256) && decide ((bl : Int) + 4 ≤ roomP (R k))) ∧ insP (R k) b = R k ++ [b] ∧ freeAt (R k) = (R k).length) := ⟨by unfold fitsP; rw [if_neg hfree], by unfold insP; rw [if_neg hfree], hfe⟩
          have hpg := HI.out.pg k hlt
          rw [e] at hpg
          have HADD : Hid (∀ (w1 w2 : World) (vo : Option Addr) (vc g cp' : Nat) (o : Obj), Below wr.heap.size wr w1 → OwnB base w1 (.slice vo bl vc) b → (∀ c, (Value.slice vo bl vc).ownBlock = some c → wr.heap.size ≤ c) → w2.ownsRow base 30 1 (.slice (some ⟨g, 0, none⟩) ((R k).length + 1) cp') ((R k).length + 1) (VS k ++ [.slice vo bl vc]) → (w1.alloc o).grownBy w2 (Value.slice ao (R k).length cp).ownBlock → ((Value.slice ao (R k).length cp).ownBlock = some g ∨ (w1.alloc o).heap.size ≤ g) → RTo base wr ro (.pointer (some ⟨rg, 0, none⟩)) n (upR R k (some (R k ++ [b]))) (w2.setCell ⟨gp, k, none⟩ (.slice (some ⟨g, 0, none⟩) ((R k).length + 1) cp')) ∧ w2.cell? ⟨rg, 0, none⟩ = some (.slice (some ⟨gp, 0, none⟩) n cap) ∧ w2.cell? ⟨gp, k, none⟩ = some (.slice ao (R k).length cp) ∧ w2.frozen? ⟨gp, k, none⟩ = false) := fun w1 w2 vo vc g cp' o g1 g2 g3 g4 g5 g6 => by
            have hB := HBL.out
            subst hB
            rw [← HE.out] at g5 g6
            refine ⟨HI.out.add hbw hlt g1 g2 g3 o g4 g5 g6, ?_⟩
            have hbA : Below w1.heap.size w1 (w1.alloc o) := (Below.refl _ _).alloc (Nat.le_refl _) _
            have hI := (HI.out.keepB g1).keepB hbA
            have hf2 : Fr (w1.alloc o) w2 (fun i => (PV k).ownBlock = some i) := Fr.of_grown g5 (fun i hi => hi)
            have n1 : ¬ ((PV k).ownBlock = some rg) := fun e => by have := hI.pr k hlt _ e; rw [hI.r1] at this; omega
            have n2 : ¬ ((PV k).ownBlock = some gp) := fun e => by have := hI.pr k hlt _ e; rw [hI.r2] at this; omega
            have c1' := (hI.rowCell hlt).1
            rw [HE.out] at c1'
            refine ⟨fr_cell hf2 n1 hI.rgCell, fr_cell hf2 n2 c1', ?_⟩
            exact (World.frozen?_of_block (a := ⟨gp, k, none⟩) (hf2.block gp (World.ownsRow.lt hI.row gp rfl).2 n2)).trans (hI.rowCell hlt).2
          have HPG : Hid (wr.ownsRow base 30 1 (.slice ao (R k).length cp) (R k).length (VS k)) := hpg
          have HAK := HAT.out k hlt
          clear hcl hrecs hfv HI HB HAT e hfree hpg hfe hfle HE
          by_cases hfit : (R k).length < 256 ∧ (bl : Int) + 4 ≤ roomP (R k)
          · have ta : decide (((R k).length : Int) < 256) = true := decide_eq_true (by omega)
            have tr : decide (roomP (R k) ≥ (bl : Int) + 4) = true := decide_eq_true hfit.2
            obtain ⟨q1, q2⟩ := HAK (by rw [HFT.out.1, decide_eq_true hfit.1, decide_eq_true hfit.2]; rfl) HN.out
            rw [HFT.out.2.1] at q2
            rw [HFT.out.2.2] at q1
            have HQ : Hid (insE n R b = ((k : Int) * 256 + ((R k).length : Int), 0) ∧ insR n R b = upR R k (some (R k ++ [b]))) := ⟨q1, q2⟩
            clear q1 q2 HAK HFT HN HNO hfit
            generalize roomP (R k) = rm at *
            obtain ⟨m, hm⟩ : ∃ m, (R k).length = m := ⟨_, rfl⟩
            rw [hm] at HPG HADD HQ ta c1 hfr hrm hfew hcp
            clear hm
            go_wp2_with (first
              | (go_at_call 52; refine hfr.mono ?_; clear hfr; rintro e wx ⟨rfl, hwx⟩; rw [hwx]; clear hwx wx)
              | (go_at_call 53; refine hrm.mono ?_; clear hrm; rintro e wx ⟨rfl, hwx⟩; rw [hwx]; clear hwx wx))
            refine ho.mono ?_
            clear ho
            rintro e w2 ⟨v', rfl, hown, hnew, hb2⟩
            obtain ⟨va, vcp, hv', _, _⟩ := hown.toBytes.form
            rw [HBL.out] at hv'
            subst hv'
            have hbA : Below w2.heap.size w2 (w2.alloc (.cells #[.slice va bl vcp] 30)) := (Below.refl _ _).alloc (Nat.le_refl _) _
            have hpgA : (w2.alloc (.cells #[.slice va bl vcp] 30)).ownsRow base 30 1 (.slice ao m cp) m (VS k) := own_of_block HPG.out (fun c hc => (hb2.trans (hbA.mono hb2.size)).block c (World.ownsRow.lt HPG.out c hc).2)
            have hsA : base ≤ (w2.alloc (.cells #[.slice va bl vcp] 30)).heap.size := Nat.le_trans hbw (Nat.le_trans hb2.size hbA.size)
            have HAD2 : Hid (∀ (w3 : World) (g cp' : Nat), w3.ownsRow base 30 1 (.slice (some ⟨g, 0, none⟩) (m + 1) cp') (m + 1) (VS k ++ [.slice va bl vcp]) → (w2.alloc (.cells #[.slice va bl vcp] 30)).grownBy w3 (Value.slice ao m cp).ownBlock → ((Value.slice ao m cp).ownBlock = some g ∨ (w2.alloc (.cells #[.slice va bl vcp] 30)).heap.size ≤ g) → RTo base wr ro (.pointer (some ⟨rg, 0, none⟩)) n (upR R k (some (R k ++ [b]))) (w3.setCell ⟨gp, k, none⟩ (.slice (some ⟨g, 0, none⟩) (m + 1) cp')) ∧ w3.cell? ⟨rg, 0, none⟩ = some (.slice (some ⟨gp, 0, none⟩) n cap) ∧ w3.cell? ⟨gp, k, none⟩ = some (.slice ao m cp) ∧ w3.frozen? ⟨gp, k, none⟩ = false) := fun w3 g cp' g4 g5 g6 => HADD.out w2 w3 va vcp g cp' _ hb2 hown hnew g4 g5 g6
            have hnb2 := heap_alloc_new w2 (.cells #[.slice va bl vcp] 30)
            clear hown hnew hb2 HADD HPG hbA
            go_wp2_with (at_builtin; refine wp_appP _ rfl _ _ rfl base _ m (VS k) rfl hpgA w2.heap.size (.slice va bl vcp) rfl hnb2 rfl (by omega) hsA ?_)
            intro g cp' w3 g4 g5 g6
            obtain ⟨hR, d0, d1, d2⟩ := HAD2.out w3 g cp' g4 g5 (by simpa using g6)
            have HR : Hid (RTo base wr ro (.pointer (some ⟨rg, 0, none⟩)) n (upR R k (some (R k ++ [b]))) (w3.setCell ⟨gp, k, none⟩ (.slice (some ⟨g, 0, none⟩) (m + 1) cp'))) := hR
            clear g4 g5 g6 hR HAD2 hpgA hsA hnb2
            go_wp2_with fail
            refine bodyPost_ret (v := .tuple #[.int .i64 (256 * (k : Int) + (m : Int)), .int .i64 0]) (by simp [results, Try.results26, go_sem]) rfl ?_
            exact ⟨by rw [HQ.out.1, Int.mul_comm], by rw [HQ.out.2]; exact HR.out⟩
          · have HS : Hid (∀ j, j < k + 1 → fitsP (R j) bl = false) := fun j hj => by
              by_cases e : j = k
              · subst e
                rw [HFT.out.1]
                by_cases h1 : (R j).length < 256
                · have h2 : ¬ ((bl : Int) + 4 ≤ roomP (R j)) := fun h => hfit ⟨h1, h⟩
                  rw [decide_eq_false h2, Bool.and_false]
                · rw [decide_eq_false h1]; rfl
              · exact HN.out j (by omega)
            clear HAK HFT HN HNO HADD HPG ho
            rcases Decidable.em ((R k).length < 256) with h1 | h1
            · have ta : decide (((R k).length : Int) < 256) = true := decide_eq_true (by omega)
              have tr : decide (roomP (R k) ≥ (bl : Int) + 4) = false := decide_eq_false (fun h => hfit ⟨h1, h⟩)
              clear hfit
              generalize roomP (R k) = rm at *
              generalize (R k).length = m at *
              go_wp2_with (first
                | (go_at_call 52; refine hfr.mono ?_; clear hfr; rintro e wx ⟨rfl, hwx⟩; rw [hwx]; clear hwx wx)
                | (go_at_call 53; refine hrm.mono ?_; clear hrm; rintro e wx ⟨rfl, hwx⟩; rw [hwx]; clear hwx wx))
              go_roundw
              case rel => exact ⟨k + 1, by go_num, by omega, HS, by trivial⟩
              case measure => simp [intOf]; omega
            · have ta : decide (((R k).length : Int) < 256) = false := decide_eq_false (by omega)
              clear hfit
              generalize roomP (R k) = rm at *
              generalize (R k).length = m at *
              go_wp2_with (first
                | (go_at_call 52; refine hfr.mono ?_; clear hfr; rintro e wx ⟨rfl, hwx⟩; rw [hwx]; clear hwx wx)
                | (go_at_call 53; refine hrm.mono ?_; clear hrm; rintro e wx ⟨rfl, hwx⟩; rw [hwx]; clear hwx wx))
              go_roundw
              case rel => exact ⟨k + 1, by go_num, by omega, HS, by trivial⟩
              case measure => simp [intOf]; omega
      · obtain rfl : k = n := by omega
        obtain ⟨q1, q2⟩ := HNO.out HN.out
        have HQ : Hid (insE k R b = (0, 83) ∧ insR k R b = R) := ⟨q1, q2⟩
        clear q1 q2 HNO HAT HN ho
        go_wp2_with fail
        refine bodyPost_ret (v := .tuple #[.int .i64 0, .int .i64 83]) (by simp [results, Try.results26, go_sem]) rfl ?_
        exact ⟨by rw [HQ.out.1], by rw [HQ.out.2]; exact RTo.same HP.out⟩
end Go.Proofs.Ytkmgahembhgloaa
