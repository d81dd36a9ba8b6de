/- The program's parser: chains. The program's parser: names, columns, types (walks by genp.py). The program's parser: what stands in an expression (walks by genp.py). The program's parser: CASE (walks by genp.py). -/
import Derived.Test.YtaenpacfbheppaaGreatDoorM14B
set_option maxHeartbeats 16000000
set_option maxRecDepth 100000
set_option linter.unusedVariables false
set_option linter.unusedSimpArgs false
namespace Go.Proofs.YtaenpacfbheppaaGreatDoor
open Go.RowKit
def HB (H : List Bx) (w : World) : Prop := ∀ x ∈ H, w.heap[x.1]? = some (.cells x.2.1.toArray x.2.2 (0, 0))
section
variable {E : Env} {B : Nat} {w0 w : World} {s : Stt} {H : List Bx} {L : List Tn}
theorem Cx.hbS0 (hC : Cx E B w0 w s H L) : HB [] w := fun y hy => by cases hy
theorem Cx.hbS1 (hC : Cx E B w0 w s H L) {x : Bx} (h : x ∈ H) : HB [x] w := fun y hy => by
  rw [List.mem_singleton] at hy; subst hy; exact (hC.hl _ h).2
theorem Cx.hbS2 (hC : Cx E B w0 w s H L) {x x2 : Bx} (h : x ∈ H) (h2 : x2 ∈ H) : HB [x, x2] w := fun y hy => by
  rcases List.mem_cons.1 hy with rfl | hy
  · exact (hC.hl _ h).2
  · exact hC.hbS1 h2 y hy
theorem Cx.hbS3 (hC : Cx E B w0 w s H L) {x x2 x3 : Bx} (h : x ∈ H) (h2 : x2 ∈ H) (h3 : x3 ∈ H) : HB [x, x2, x3] w := fun y hy => by
  rcases List.mem_cons.1 hy with rfl | hy
  · exact (hC.hl _ h).2
  · exact hC.hbS2 h2 h3 y hy
theorem Cx.hbI0 (hC : Cx E B w0 w s H L) : HB [] w := hC.hbS0
theorem Cx.hbI1 (hC : Cx E B w0 w s H L) (i : Nat) {x : Bx} (h : H[i]? = some x) : HB [x] w := hC.hbS1 (List.mem_of_getElem? h)
theorem Cx.hbI2 (hC : Cx E B w0 w s H L) (i j : Nat) {x y : Bx} (h : H[i]? = some x) (h2 : H[j]? = some y) : HB [x, y] w := hC.hbS2 (List.mem_of_getElem? h) (List.mem_of_getElem? h2)
theorem Cx.hbI3 (hC : Cx E B w0 w s H L) (i j k : Nat) {x y z : Bx} (h : H[i]? = some x) (h2 : H[j]? = some y) (h3 : H[k]? = some z) : HB [x, y, z] w := hC.hbS3 (List.mem_of_getElem? h) (List.mem_of_getElem? h2) (List.mem_of_getElem? h3)
end
theorem yi_loadN {ops : Array Oper} {o : Oper} {a : Act} {Hs : List Bx} (hg : o.guard = none) {x : Operand} (ho : o.op = .load 24 x) {k TT : Nat} (hx : a.eval x = .pointer (some ⟨k, 0, none⟩)) {c0 c1 c2 c3 : Value} (hm : (k, [c0, c1, c2, c3], TT) ∈ Hs) : YieldsIf Tryz.prog ops (HB Hs) o (.agg #[c0, c1, c2, c3]) a := by
  obtain ⟨d, hu, hd⟩ := undNd
  refine yieldsIf_load_mid (by simp [Region.wanted, hg]) _ x ho k 0 hx [c0, c1, c2, c3] d (fun w hw j v hv => ?_) hu hd sizN
  rw [cell_of_row w k _ _ _ _ (hw _ hm)]
  simpa using hv
theorem yi_load1 {ops : Array Oper} {o : Oper} {a : Act} {Hs : List Bx} (hg : o.guard = none) {x : Operand} {T : Nat} (ho : o.op = .load T x) (hT : (Tryz.prog.underlying T).map TypeDesc.isRow = some false) {k TT off : Nat} (hx : a.eval x = .pointer (some ⟨k, off, none⟩)) {cs : List Value} (hm : (k, cs, TT) ∈ Hs) {v : Value} (hv : cs[off]? = some v) : YieldsIf Tryz.prog ops (HB Hs) o v a := by
  obtain ⟨d, hu, hd⟩ := und1 hT
  refine Or.inl ⟨by simp [Region.wanted, hg], fun w hw => ?_⟩
  have hc : w.cell? ⟨k, off, none⟩ = some v := by
    rw [cell_of_row w k _ _ _ _ (hw _ hm)]
    simpa using hv
  have e : (loadVar T ⟨k, off, none⟩).run Tryz.prog w = .ok v w := by
    have hagg : (isAgg T).run Tryz.prog w = .ok false w := by
      unfold isAgg
      rw [Sem.run_bind, run_underlying hu w]
      cases d <;> simp_all
    unfold loadVar
    simp [hagg, hc]
  unfold execOp
  simp only [ho, hx, Instr.loadAt, Instr.sureAddr, Sem.run_bind, Sem.run_pure, Result.andThen_ok, e]
theorem qkN (i : Nat) {md : Region.Mode} {ops : Array Oper} {Q : Exit → Act → World → Prop} {Hs : List Bx} {oi : Oper} {fuel : Nat} {listed : Array Bool} {a : Act} {w : World} {x : Operand} {k TT : Nat} {c0 c1 c2 c3 : Value} (h : wpAnyH Tryz.prog md ops Q (HB Hs) fuel (listed.setIfInBounds i true) (a.put oi.dst (.agg #[c0, c1, c2, c3])) w) (hi : ops[i]? = some oi := by rfl) (hg : oi.guard = none := by rfl) (ho : oi.op = .load 24 x := by rfl) (hx : a.eval x = .pointer (some ⟨k, 0, none⟩) := by rfl) (hm : (k, [c0, c1, c2, c3], TT) ∈ Hs := by repeat (first | exact List.mem_cons_self | assumption | apply List.mem_cons_of_mem)) (hs : Region.noSelect ops = true := by kernel_rfl) (hf : Region.free md ops listed i = true := by kernel_rfl) (hr : (Region.ready md ops listed).contains i = true := by kernel_rfl) (hQ : ∀ c a w, Q (.panic c) (a.put oi.dst (.agg #[c0, c1, c2, c3])) w → Q (.panic c) a w := by exact fun _ _ _ h => h) (hS : HB Hs w := by assumption) : wpAnyH Tryz.prog md ops Q (HB Hs) (fuel + 1) listed a w :=
  wpAnyH_take hi hs hf hr hQ (yi_loadN hg ho hx hm) hS h
theorem qkL (i : Nat) {md : Region.Mode} {ops : Array Oper} {Q : Exit → Act → World → Prop} {Hs : List Bx} {oi : Oper} {fuel : Nat} {listed : Array Bool} {a : Act} {w : World} {x : Operand} {T k TT off : Nat} {cs : List Value} {v : Value} (h : wpAnyH Tryz.prog md ops Q (HB Hs) fuel (listed.setIfInBounds i true) (a.put oi.dst v) w) (hi : ops[i]? = some oi := by rfl) (hg : oi.guard = none := by rfl) (ho : oi.op = .load T x := by rfl) (hT : (Tryz.prog.underlying T).map TypeDesc.isRow = some false := by kernel_rfl) (hx : a.eval x = .pointer (some ⟨k, off, none⟩) := by rfl) (hm : (k, cs, TT) ∈ Hs := by repeat (first | exact List.mem_cons_self | assumption | apply List.mem_cons_of_mem)) (hv : cs[off]? = some v := by rfl) (hs : Region.noSelect ops = true := by kernel_rfl) (hf : Region.free md ops listed i = true := by kernel_rfl) (hr : (Region.ready md ops listed).contains i = true := by kernel_rfl) (hQ : ∀ c a w, Q (.panic c) (a.put oi.dst v) w → Q (.panic c) a w := by exact fun _ _ _ h => h) (hS : HB Hs w := by assumption) : wpAnyH Tryz.prog md ops Q (HB Hs) (fuel + 1) listed a w :=
  wpAnyH_take hi hs hf hr hQ (yi_load1 hg ho hT hx hm hv) hS h
section
variable {E : Env} {B : Nat} {w0 w : World} {s : Stt} {H : List Bx} {L : List Tn}
theorem Cx.hb1' (hC : Cx E B w0 w s H L) {x : Bx} (h : x ∈ H := by repeat (first | exact List.mem_cons_self | assumption | apply List.mem_cons_of_mem)) : HB [x] w := hC.hbS1 h
theorem Cx.hb2' (hC : Cx E B w0 w s H L) {x x2 : Bx} (h : x ∈ H := by repeat (first | exact List.mem_cons_self | assumption | apply List.mem_cons_of_mem)) (h2 : x2 ∈ H := by repeat (first | exact List.mem_cons_self | assumption | apply List.mem_cons_of_mem)) : HB [x, x2] w := hC.hbS2 h h2
theorem Cx.hb3' (hC : Cx E B w0 w s H L) {x x2 x3 : Bx} (h : x ∈ H := by repeat (first | exact List.mem_cons_self | assumption | apply List.mem_cons_of_mem)) (h2 : x2 ∈ H := by repeat (first | exact List.mem_cons_self | assumption | apply List.mem_cons_of_mem)) (h3 : x3 ∈ H := by repeat (first | exact List.mem_cons_self | assumption | apply List.mem_cons_of_mem)) : HB [x, x2, x3] w := hC.hbS3 h h2 h3
end
theorem Cx.cells4 {E : Env} {B : Nat} {w0 w : World} {s : Stt} {H : List Bx} {L : List Tn} (hC : Cx E B w0 w s H L) {k TT : Nat} {c0 c1 c2 c3 : Value} (hm : (k, [c0, c1, c2, c3], TT) ∈ H) : w.cell? ⟨k, 0, none⟩ = some c0 ∧ w.cell? ⟨k, 1, none⟩ = some c1 ∧ w.cell? ⟨k, 2, none⟩ = some c2 ∧ w.cell? ⟨k, 3, none⟩ = some c3 := by
  obtain ⟨i, hi, e⟩ := List.mem_iff_getElem.1 hm
  have hi' : H[i]? = some (k, [c0, c1, c2, c3], TT) := by rw [List.getElem?_eq_getElem hi, e]
  exact ⟨hC.cell i hi' 0 rfl, hC.cell i hi' 1 rfl, hC.cell i hi' 2 rfl, hC.cell i hi' 3 rfl⟩
def LkP (E : Env) (B : Nat) (w0 : World) (H : List Bx) (L : List Tn) (ts : List Tok) (o : Option ((List UInt8 × Int) × List Tok)) (e : Ending) (W : World) : Prop := match o with
  | none => ∃ op s n, e = .returned (.tuple #[nv op s n none 0 0, .bool false]) ∧ Cx E B w0 W (.p ts) H L
  | some ((op, n), r) => e = .returned (.tuple #[nv op [] n none 0 0, .bool true]) ∧ Cx E B w0 W (.p r) H L
def DoesK (E : Env) (B : Nat) (w0 : World) (H : List Bx) (g : Nat) (fa la : Array Value) (K : Lk) : Prop := ∀ {W : World} {ts : List Tok} {H' : List Bx} {L' : List Tn}, H.Sublist H' → Cx E B w0 W (.p ts) H' L' → Calls Tryz.prog g (fa ++ la) W (LkP E B w0 H' L' ts (K ts))
theorem useK {E : Env} {B : Nat} {w0 w : World} {H : List Bx} {L : List Tn} {f : Nat} {args : Array Value} {R : Ending → World → Prop} {ts : List Tok} {o : Option ((List UInt8 × Int) × List Tok)} (h : Calls Tryz.prog f args w (LkP E B w0 H L ts o)) (h0 : o = none → ∀ op s n W, Cx E B w0 W (.p ts) H L → R (.returned (.tuple #[nv op s n none 0 0, .bool false])) W)
    (h1 : ∀ op n r, o = some ((op, n), r) → ∀ W, Cx E B w0 W (.p r) H L → R (.returned (.tuple #[nv op [] n none 0 0, .bool true])) W) : Calls Tryz.prog f args w R := by
  refine h.mono fun e W hp => ?_
  rcases o with _ | ⟨⟨op, n⟩, r⟩
  · obtain ⟨op, s, n, rfl, hc⟩ := hp; exact h0 rfl op s n W hc
  · obtain ⟨rfl, hc⟩ := hp; exact h1 op n r rfl W hc
theorem q_chain {E : Env} {B : Nat} {w0 w : World} {ts : List Tok} {H : List Bx} {L : List Tn} {I : Ps Tr} {Kl : Lk} {g g2 m : Nat} {fa la fa2 la2 : Array Value} (eg : Enters Tryz.prog g) (eg2 : Enters Tryz.prog g2) (hI : DoesN E B w0 H g fa la I m) (hK : DoesK E B w0 H g2 fa2 la2 Kl) (hm : ts.length < m) (hlen : Len I) (hkl : LkLen Kl) (hC : Cx E B w0 w (.p ts) H L) :
    Calls Tryz.prog 123 #[.pointer (some ⟨E.b, 0, none⟩), .func (.func g) fa la, .func (.func g2) fa2 la2] w ((oN (chF I Kl ts)).P E B w0 H L) := by
  obtain ⟨o, ho⟩ : ∃ o, chF I Kl ts = o := ⟨_, rfl⟩
  rw [ho]
  unfold chF at ho
  have HO := hidk ho
  clear ho
  unfold Enters at eg eg2
  go_enter Tryz.func123, Tryz.ntmps123
  go_wp2_with (first
  | (refine bA ?_; clear hC; intro W k hC)
  | (refine m0 ?_; clear hC; intro W hC; simp only [pS] at hC; (try simp only [pP]))
  | ((first | refine hC.bP ?_ | refine hC.bN ?_ | refine hC.b1 ?_); clear hC; intro W k hC; (try simp only [pP]))
  | refine bL ?_
  | (refine bS ?_; clear hC; intro W hC)
    | (have hD := hC; clear hC; refine useN (hI mSub hD (by omega)) ?_ ?_; (· intro hF W hM; clear hD; (try simp only [hF] at HO); exact ⟨rfl, stopN HO hM⟩); intro t r hF W ao cap hC; clear hD; (try simp only [hF] at HO); have hl := hlen _ _ _ hF; clear hF))
  rename_i Wa k6 Wb Wc
  rename Nat => k7
  go_loopg [] (r.length) (fun kx wr => ∃ (t : Tr) (ao : Option Addr) (cap : Nat) (L' : List Tn) (ts' : List Tok) (f : Nat), ts'.length ≤ kx ∧ Hid (Cx E B w0 wr (.p ts') ((k7, ncs ao cap t, 24) :: (k6, [.string ⟨#[]⟩, .string ⟨#[]⟩, .int .i64 0, .slice none 0 0], 24) :: H) L') ∧ Hid ((ao, cap, t) ∈ L') ∧ Hid (∀ y ∈ L, y ∈ L') ∧ Hid (chN I Kl f t ts' = o) ∧ ts'.length < f ∧ ts'.length < m)
  case atStart => exact ⟨t, ao, cap, _, r, r.length + 1, Nat.le_refl _, hC, List.mem_cons_self, fun y hy => List.mem_cons_of_mem _ hy, HO, by omega, by omega⟩
  case round =>
    rename World => wr
    clear hC HO hl
    obtain ⟨t, ao, cap, L', ts', f, hk, hC', hM, hS, HO2, hf, hmm⟩ := hrel
    have hC := hC'.out
    clear hC'
    obtain ⟨f, rfl⟩ : ∃ f', f = f' + 1 := ⟨f - 1, by omega⟩
    obtain ho := HO2.out
    clear HO2
    unfold chN at ho
    have HO := hidk ho
    clear ho
    unfold ncs at hC
    go_wp2_with (first
    | (refine bA ?_; clear hC; intro W k hC)
    | (refine m0 ?_; clear hC; intro W hC; simp only [pS] at hC; (try simp only [pP]))
    | ((first | refine hC.bP ?_ | refine hC.bN ?_ | refine hC.b1 ?_); clear hC; intro W k hC; (try simp only [pP]))
    | refine bL ?_
    | (refine bS ?_; clear hC; intro W hC)
      | (have hD := hC; clear hC; refine useK (hK mSub hD) ?_ ?_; (focus (intro hF op s n W hC; clear hD; (try simp only [hF] at HO); clear hF)); rotate_left; (focus (intro op n r hF W hC; clear hD; (try simp only [hF] at HO); have hl := hkl _ _ _ hF; clear hF)))
    | (guard_target = Code.wp _ (Code.region 5 _ true) _ _ _; refine wp_region_held_drew (S := HB [_]) (by kernel_rfl) (hC.drew.hbI1 1 (by rfl)) (fun hHeld => ?_); replace hC := hC.drew; refine qkN 0 ?_; (try simp only [pQ]); refine qk 1 ?_; (try simp only [pQ]); refine ry [2] ?_; refine rd1 fun K hK => ?_; go_simp; (first | (have hD := hC; clear hC; refine useN (hI mSub hD (by omega)) ?_ ?_; (· intro hF W hM; clear hD; (try simp only [hF] at HO); exact ⟨rfl, stopN HO hM⟩); intro t r hF W ao cap hC; clear hD; (try simp only [hF] at HO); have hl2 := hlen _ _ _ hF; clear hF)); refine hK.out _ _ hC.hb1' fun hHeld => ?_; clear hK K; (try simp only [pQ]); refine ry [3] ?_; refine rd1 fun K hK => ?_; refine st_of rfl ?_; refine wp_build2C hC (by rfl) (by rfl) (by rfl) ?_; clear hC; intro W k hC; refine hK.out _ _ hC.hb1' fun hHeld => ?_; clear hK K; (try simp only [pQ]); refine qk 4 ?_; (try simp only [pQ]); refine ry [5] ?_; refine rd1 fun K hK => ?_; refine st_of rfl ?_; (first | refine wp_storeL hC 0 (by rfl) (by rfl) (by rfl) (by rfl) ?_ | refine wp_storeL hC 1 (by rfl) (by rfl) (by rfl) (by rfl) ?_ | refine wp_storeL hC 2 (by rfl) (by rfl) (by rfl) (by rfl) ?_ | refine wp_storeL hC 3 (by rfl) (by rfl) (by rfl) (by rfl) ?_ | refine wp_storeL hC 4 (by rfl) (by rfl) (by rfl) (by rfl) ?_ | refine wp_storeL hC 5 (by rfl) (by rfl) (by rfl) (by rfl) ?_ | refine wp_storeL hC 6 (by rfl) (by rfl) (by rfl) (by rfl) ?_ | refine wp_storeL hC 7 (by rfl) (by rfl) (by rfl) (by rfl) ?_ | refine wp_storeL hC 8 (by rfl) (by rfl) (by rfl) (by rfl) ?_); clear hC; intro W hC; simp only [pS] at hC; refine hK.out _ _ hC.hb1' fun hHeld => ?_; clear hK K; (try simp only [pQ]); refine dn ?_ _))
    · have hD := hC.tree2 op [] n (.tail _ hM.out) (.head _)
      clear hC
      go_roundg (r.length)
      case measure => omega
      case rel => exact ⟨_, _, _, _, r, f, Nat.le_refl _, hD.less (List.sublist_cons_self _ _) (fun x hx => hx), List.mem_cons_self, fun y hy => List.mem_cons_of_mem _ (List.mem_cons_of_mem _ (hS.out y hy)), HO, by omega, by omega⟩
    · refine hC.rc ?_
      exact endN HO (hC.fin mSub hM.out hS.out)
end Go.Proofs.YtaenpacfbheppaaGreatDoor

namespace Go.Proofs.YtaenpacfbheppaaGreatDoor
open Go.RowKit
structure Ct (R : Rc) (n : Nat) : Prop where
  len : R.Len
  expr : ∀ {E : Env} {B : Nat} {w0 w : World} {ts : List Tok} {H : List Bx} {L : List Tn}, Cx E B w0 w (.p ts) H L → ts.length + 1 < n → Calls Tryz.prog 120 #[.pointer (some ⟨E.b, 0, none⟩)] w ((oN (R.expr ts)).P E B w0 H L)
  body : ∀ {E : Env} {B : Nat} {w0 w : World} {ts : List Tok} {H : List Bx} {L : List Tn}, Cx E B w0 w (.p ts) H L → ts.length + 1 < n → Calls Tryz.prog 91 #[.pointer (some ⟨E.b, 0, none⟩)] w ((oN (R.body ts)).P E B w0 H L)
  neg : ∀ {E : Env} {B : Nat} {w0 w : World} {ts : List Tok} {H : List Bx} {L : List Tn}, Cx E B w0 w (.p ts) H L → ts.length + 1 < n → Calls Tryz.prog 158 #[.pointer (some ⟨E.b, 0, none⟩)] w ((oN (R.neg ts)).P E B w0 H L)
  fac : ∀ {E : Env} {B : Nat} {w0 w : World} {ts : List Tok} {H : List Bx} {L : List Tn}, Cx E B w0 w (.p ts) H L → ts.length + 1 < n → Calls Tryz.prog 200 #[.pointer (some ⟨E.b, 0, none⟩)] w ((oN (R.fac ts)).P E B w0 H L)
  tab : ∀ {E : Env} {B : Nat} {w0 w : World} {ts : List Tok} {H : List Bx} {L : List Tn}, Cx E B w0 w (.p ts) H L → ts.length + 1 < n → Calls Tryz.prog 162 #[.pointer (some ⟨E.b, 0, none⟩)] w ((oN (R.tab ts)).P E B w0 H L)
theorem Cx.tkl {E : Env} {B : Nat} {w0 w : World} {ws : List (List UInt8)} {ts : List Tok} {H : List Bx} {L : List Tn} (h : Cx E B w0 w (.p (tkR ws ts)) H L) : (tkR ws ts).length ≤ ts.length := tkR_len ws ts
theorem Cx.dfl {E : Env} {B : Nat} {w0 w : World} {ts : List Tok} {H : List Bx} {L : List Tn} (h : Cx E B w0 w (.p (distF ts).2) H L) : (distF ts).2.length ≤ ts.length := distF_len ts
theorem endD {E : Env} {B : Nat} {w0 W : World} {H : List Bx} {L : List Tn} {o : Int × List Tok} {n : Int} {r : List Tok} (h : Hid ((n, r) = o)) (hc : Cx E B w0 W (.p r) H L) : (Out.v (.int .i64 o.1) (.p o.2)).P E B w0 H L (.returned (.int .i64 n)) W := by
  rw [← h.out]; exact ⟨rfl, hc⟩
theorem endK0 {E : Env} {B : Nat} {w0 W : World} {H : List Bx} {L : List Tn} {ts : List Tok} {o : Option ((List UInt8 × Int) × List Tok)} {op s : List UInt8} {n : Int} (h : Hid (none = o)) (hc : Cx E B w0 W (.p ts) H L) : LkP E B w0 H L ts o (.returned (.tuple #[nv op s n none 0 0, .bool false])) W := by
  rw [← h.out]; exact ⟨_, _, _, rfl, hc⟩
theorem endK1 {E : Env} {B : Nat} {w0 W : World} {H : List Bx} {L : List Tn} {ts r : List Tok} {o : Option ((List UInt8 × Int) × List Tok)} {op : List UInt8} {n : Int} (h : Hid (some ((op, n), r) = o)) (hc : Cx E B w0 W (.p r) H L) : LkP E B w0 H L ts o (.returned (.tuple #[nv op [] n none 0 0, .bool true])) W := by
  rw [← h.out]; exact ⟨rfl, hc⟩
theorem ent_names1 : Enters Tryz.prog 118 := enters_of (fn := Tryz.f118) rfl rfl rfl
theorem ent_expr : Enters Tryz.prog 120 := enters_of (fn := Tryz.f120) rfl rfl rfl
theorem ent_conjunction : Enters Tryz.prog 140 := enters_of (fn := Tryz.f140) rfl rfl rfl
theorem ent_negation : Enters Tryz.prog 158 := enters_of (fn := Tryz.f158) rfl rfl rfl
theorem ent_product : Enters Tryz.prog 191 := enters_of (fn := Tryz.f191) rfl rfl rfl
theorem ent_factor : Enters Tryz.prog 200 := enters_of (fn := Tryz.f200) rfl rfl rfl
theorem ent_term : Enters Tryz.prog 124 := enters_of (fn := Tryz.f124) rfl rfl rfl
theorem ent_simple : Enters Tryz.prog 144 := enters_of (fn := Tryz.f144) rfl rfl rfl
theorem ent_number : Enters Tryz.prog 143 := enters_of (fn := Tryz.f143) rfl rfl rfl
theorem ent_element : Enters Tryz.prog 54 := enters_of (fn := Tryz.f54) rfl rfl rfl
theorem ent_set : Enters Tryz.prog 92 := enters_of (fn := Tryz.f92) rfl rfl rfl
theorem ent_key : Enters Tryz.prog 127 := enters_of (fn := Tryz.f127) rfl rfl rfl
theorem ent_column : Enters Tryz.prog 163 := enters_of (fn := Tryz.f163) rfl rfl rfl
theorem ent_item : Enters Tryz.prog 161 := enters_of (fn := Tryz.f161) rfl rfl rfl
theorem ent_table : Enters Tryz.prog 162 := enters_of (fn := Tryz.f162) rfl rfl rfl
theorem ent_cast : Enters Tryz.prog 210 := enters_of (fn := Tryz.f210) rfl rfl rfl
theorem ent_nullif : Enters Tryz.prog 211 := enters_of (fn := Tryz.f211) rfl rfl rfl
theorem ent_wordOperand1 : Enters Tryz.prog 212 := enters_of (fn := Tryz.f212) rfl rfl rfl
theorem ent_expr1 : Enters Tryz.prog 141 := enters_of (fn := Tryz.f141) rfl rfl rfl
theorem ent_conjunction1 : Enters Tryz.prog 159 := enters_of (fn := Tryz.f159) rfl rfl rfl
theorem ent_sum1 : Enters Tryz.prog 192 := enters_of (fn := Tryz.f192) rfl rfl rfl
theorem ent_product1 : Enters Tryz.prog 201 := enters_of (fn := Tryz.f201) rfl rfl rfl
theorem ent_body1 : Enters Tryz.prog 125 := enters_of (fn := Tryz.f125) rfl rfl rfl
theorem ent_term1 : Enters Tryz.prog 145 := enters_of (fn := Tryz.f145) rfl rfl rfl
theorem ent_caseOf1 : Enters Tryz.prog 214 := enters_of (fn := Tryz.f214) rfl rfl rfl
theorem ent_row : Enters Tryz.prog 90 := enters_of (fn := Tryz.f90) rfl rfl rfl
theorem ent_body : Enters Tryz.prog 91 := enters_of (fn := Tryz.f91) rfl rfl rfl
theorem q_names1 {E : Env} {B : Nat} {w0 w : World} {ts : List Tok} {H : List Bx} {L : List Tn} {kp : Nat} (hp : (kp, [.pointer (some ⟨E.b, 0, none⟩)], 38) ∈ H) (hC : Cx E B w0 w (.p ts) H L) :
    Calls Tryz.prog 118 #[.pointer (some ⟨kp, 0, none⟩)] w ((oN (namF ts)).P E B w0 H L) := by
  obtain ⟨o, ho⟩ : ∃ o, namF ts = o := ⟨_, rfl⟩
  rw [ho]
  unfold namF at ho
  have HO := hidk ho
  clear ho
  go_enter Tryz.func118, Tryz.ntmps118
  go_wp2_with (first
  | (refine bA ?_; clear hC; intro W k hC)
  | refine bL ?_
  | (refine bS ?_; clear hC; intro W hC)
  | (go_at_call 52; have hD := hC; clear hC; (first | refine useS (q_name hD) ?_ ?_); (· intro hF W hM; clear hD; (try simp only [hF] at HO); exact ⟨rfl, stopN HO hM⟩); intro s r hF W hC; clear hD; (try simp only [hF] at HO); have hl := nameF_le hF; clear hF)
  | (first | (go_at_call 51; guard_target = Calls _ _ #[_, _, Value.slice none 0 0] _ _; (first | refine useDx (q_node0 _ _ hC) ?_); clear hC; intro W hC) | (go_at_call 51; guard_target = Calls _ _ #[_, _, Value.slice (some _) 1 1] _ _; refine m1 ?_; clear hC; intro W hC) | (go_at_call 51; guard_target = Calls _ _ #[_, _, Value.slice (some _) 2 2] _ _; refine m2 ?_; clear hC; intro W hC) | (go_at_call 51; guard_target = Calls _ _ #[_, _, Value.slice (some _) 3 3] _ _; refine m3 ?_; clear hC; intro W hC) | (go_at_call 51; have hD := hC; clear hC; refine m4 ?_; intro W hC; clear hD)))
  all_goals first | exact ⟨rfl, stopN HO hC.mv⟩ | exact eM1
theorem q_names {E : Env} {B : Nat} {w0 w : World} {ts : List Tok} {H : List Bx} {L : List Tn} (hC : Cx E B w0 w (.p ts) H L) :
    Calls Tryz.prog 85 #[.pointer (some ⟨E.b, 0, none⟩)] w ((oL (namesF ts)).P E B w0 H L) := by
  obtain ⟨o, ho⟩ : ∃ o, namesF ts = o := ⟨_, rfl⟩
  rw [ho]
  unfold namesF at ho
  have HO := hidk ho
  clear ho
  go_enter Tryz.func85, Tryz.ntmps85
  go_wp2_with (first
  | ((first | refine hC.bP ?_ | refine hC.bN ?_ | refine hC.b1 ?_); clear hC; intro W k hC; (try simp only [pP]))
  | refine bL ?_
  | (go_at_call 53; have hD := hC; clear hC; (first | refine useL (q_lip (I := namF) (m := 601) ent_names1 (fun hs hE hl => q_names1 (hs.subset (.head _)) hE) (by have := hD.le600; omega) (fun _ _ _ h => namF_len h) hD) ?_ ?_); (· intro hF W hM; clear hD; (try simp only [hF] at HO); exact ⟨rfl, stopL HO hM⟩); intro l r hF W ao cap hC; clear hD; (try simp only [hF] at HO); clear hF))
  all_goals first | exact ⟨rfl, stopL HO hC.mv⟩ | (go_ret; exact endL HO (hC.fin mSub mMem mL))
theorem q_column {E : Env} {B : Nat} {w0 w : World} {ts : List Tok} {H : List Bx} {L : List Tn} (hC : Cx E B w0 w (.p ts) H L) :
    Calls Tryz.prog 163 #[.pointer (some ⟨E.b, 0, none⟩)] w ((oN (colF ts)).P E B w0 H L) := by
  obtain ⟨o, ho⟩ : ∃ o, colF ts = o := ⟨_, rfl⟩
  rw [ho]
  unfold colF at ho
  have HO := hidk ho
  clear ho
  go_enter Tryz.func163, Tryz.ntmps163
  go_wp2_with (first
  | (refine bA ?_; clear hC; intro W k hC)
  | (refine bS ?_; clear hC; intro W hC)
  | (go_at_call 52; have hD := hC; clear hC; (first | refine useS (q_name hD) ?_ ?_); (· intro hF W hM; clear hD; (try simp only [hF] at HO); exact ⟨rfl, stopN HO hM⟩); intro s r hF W hC; clear hD; (try simp only [hF] at HO); have hl := nameF_le hF; clear hF)
  | (go_at_call 21; have hD := hC; clear hC; refine useG (q_tookSign _ hD) ?_ ?_; (focus (intro hF W hC; clear hD; (try simp only [hF, Option.isSome_none, Bool.false_eq_true, Bool.and_false, reduceIte] at HO); clear hF)); rotate_left; (focus (intro x r hF W hC; clear hD; (try simp only [hF, Option.isSome_some, Bool.and_true, reduceIte] at HO); have hl := oneF_le hF; clear hF)))
  | (first | (go_at_call 51; guard_target = Calls _ _ #[_, _, Value.slice none 0 0] _ _; (first | refine useDx (q_node0 _ _ hC) ?_); clear hC; intro W hC) | (go_at_call 51; guard_target = Calls _ _ #[_, _, Value.slice (some _) 1 1] _ _; refine m1 ?_; clear hC; intro W hC) | (go_at_call 51; guard_target = Calls _ _ #[_, _, Value.slice (some _) 2 2] _ _; refine m2 ?_; clear hC; intro W hC) | (go_at_call 51; guard_target = Calls _ _ #[_, _, Value.slice (some _) 3 3] _ _; refine m3 ?_; clear hC; intro W hC) | (go_at_call 51; have hD := hC; clear hC; refine m4 ?_; intro W hC; clear hD)))
  all_goals first | exact ⟨rfl, stopN HO hC.mv⟩ | exact eM1
theorem q_typeOf {E : Env} {B : Nat} {w0 w : World} {ts : List Tok} {H : List Bx} {L : List Tn} (hC : Cx E B w0 w (.p ts) H L) :
    Calls Tryz.prog 121 #[.pointer (some ⟨E.b, 0, none⟩)] w ((oN (typF ts)).P E B w0 H L) := by
  obtain ⟨o, ho⟩ : ∃ o, typF ts = o := ⟨_, rfl⟩
  rw [ho]
  unfold typF typF.chrF at ho
  have HO := hidk ho
  clear ho
  go_enter Tryz.func121, Tryz.ntmps121
  go_wp2_with (first
  | (refine bA ?_; clear hC; intro W k hC)
  | (refine bS ?_; clear hC; intro W hC)
  | (go_at_call 50; have hD := hC; clear hC; (first | guard_target = Calls _ _ #[_, Value.slice (some _) 1 1] _ _; refine useB (q_took1 _ hD) ?_ ?_); (focus (intro hb W hC; clear hD; (try simp only [hb, reduceIte, pB] at HO); (try have hl := tkR_ls hb (by simp)); clear hb)); rotate_left; (focus (intro hb W hC; clear hD; (try simp only [tkR_no hb] at HO hC); (try simp only [hb, reduceIte, pB] at HO); clear hb)))
  | (go_at_call 79; have hD := hC; clear hC; (first | (guard_target = Calls _ _ #[_, Value.int _ 0, _, _] _ _; refine useB (q_stands hD 0 (by decide) _ _) ?_ ?_) | (guard_target = Calls _ _ #[_, Value.int _ 1, _, _] _ _; refine useB (q_stands hD 1 (by decide) _ _) ?_ ?_) | (guard_target = Calls _ _ #[_, Value.int _ 2, _, _] _ _; refine useB (q_stands hD 2 (by decide) _ _) ?_ ?_)); (focus (intro hb W hC; clear hD; (try simp only [hb, reduceIte, Bool.true_and, Bool.and_true] at HO); clear hb)); rotate_left; (focus (intro hb W hC; clear hD; (try simp only [hb, reduceIte, Bool.false_and, Bool.and_false, Bool.false_eq_true] at HO); clear hb)))
  | (go_at_call 142; have hD := hC; clear hC; (first | refine useI (q_parI (I := numF) (m := 601) ent_number (fun hs hE hl => q_number hE) (by have := hD.le600; omega) hD) ?_ ?_); (· intro hF W hM; clear hD; (try simp only [hF] at HO); exact ⟨rfl, stopN HO hM⟩); intro n r hF W hC; clear hD; (try simp only [hF] at HO); clear hF)
  | (go_at_call 87; have hD := hC; clear hC; (first | guard_target = Calls _ _ #[_, Value.slice (some _) 1 1] _ _; refine useU (q_need1 _ hD) ?_ ?_); (· intro hF W hM; clear hD; (try simp only [hF] at HO); exact ⟨rfl, stopN HO hM⟩); intro r hF W hC; clear hD; (try simp only [hF] at HO); have hl := needF_lt hF (Nat.succ_pos _); clear hF)
  | (first | (go_at_call 51; guard_target = Calls _ _ #[_, _, Value.slice none 0 0] _ _; (first | refine useDx (q_node0 _ _ hC) ?_); clear hC; intro W hC) | (go_at_call 51; guard_target = Calls _ _ #[_, _, Value.slice (some _) 1 1] _ _; refine m1 ?_; clear hC; intro W hC) | (go_at_call 51; guard_target = Calls _ _ #[_, _, Value.slice (some _) 2 2] _ _; refine m2 ?_; clear hC; intro W hC) | (go_at_call 51; guard_target = Calls _ _ #[_, _, Value.slice (some _) 3 3] _ _; refine m3 ?_; clear hC; intro W hC) | (go_at_call 51; have hD := hC; clear hC; refine m4 ?_; intro W hC; clear hD)))
  all_goals first | exact ⟨rfl, stopN HO hC.mv⟩ | exact eM1
theorem q_distinct {E : Env} {B : Nat} {w0 w : World} {ts : List Tok} {H : List Bx} {L : List Tn} (hC : Cx E B w0 w (.p ts) H L) :
    Calls Tryz.prog 160 #[.pointer (some ⟨E.b, 0, none⟩)] w ((Out.v (.int .i64 (distF ts).1) (.p (distF ts).2)).P E B w0 H L) := by
  obtain ⟨o, ho⟩ : ∃ o, distF ts = o := ⟨_, rfl⟩
  rw [ho]
  unfold distF at ho
  have HO := hidk ho
  clear ho
  go_enter Tryz.func160, Tryz.ntmps160
  go_wp2_with (first
  | (refine bA ?_; clear hC; intro W k hC)
  | (go_at_call 50; have hD := hC; clear hC; (first | guard_target = Calls _ _ #[_, Value.slice (some _) 1 1] _ _; refine useB (q_took1 [100, 105, 115, 116, 105, 110, 99, 116] hD) ?_ ?_); (focus (intro hb W hC; clear hD; (try simp only [hb, reduceIte, pB] at HO); (try have hl := tkR_ls hb (by simp)); clear hb)); rotate_left; (focus (intro hb W hC; clear hD; (try simp only [tkR_no hb] at HO hC); (try simp only [hb, reduceIte, pB] at HO); clear hb)))
  | (go_at_call 50; have hD := hC; clear hC; (first | guard_target = Calls _ _ #[_, Value.slice (some _) 1 1] _ _; refine useV (q_took1 [97, 108, 108] hD) ?_); intro W hC; clear hD; (try have hl := hC.tkl)))
  all_goals (go_ret; exact endD HO (hC.fin0 mSub mL))
end Go.Proofs.YtaenpacfbheppaaGreatDoor

namespace Go.Proofs.YtaenpacfbheppaaGreatDoor
open Go.RowKit
def cndF (R : Rc) (of : Option Tr) (ts : List Tok) : Option (Tr × List Tok) := match R.expr ts with
  | none => none
  | some (c, r) => some ((match of with | none => c | some o => nd [61] [] [o, c]), r)
theorem whenF_eq (R : Rc) (of : Option Tr) (ts : List Tok) : whenF R of ts = match needF [[119, 104, 101, 110]] ts with
  | none => none
  | some r => match cndF R of r with
    | none => none
    | some (c, r2) => match needF [[116, 104, 101, 110]] r2 with
      | none => none
      | some r3 => match R.expr r3 with
        | none => none
        | some (e, r4) => some (nd [119, 104, 101, 110] [] [c, e], r4) := by
  unfold whenF cndF
  cases needF [[119, 104, 101, 110]] ts with
  | none => rfl
  | some r =>
    simp only
    cases R.expr r with
    | none => rfl
    | some p => rfl
theorem cndF_len {R : Rc} (hR : R.Len) {of : Option Tr} {ts r : List Tok} {x : Tr} (h : cndF R of ts = some (x, r)) : r.length ≤ ts.length := by
  have := hR.expr
  grind [cndF, Len]
theorem expr_of (R : Rc) (ts : List Tok) : cndF R none ts = R.expr ts := by
  unfold cndF
  cases R.expr ts with
  | none => rfl
  | some p => rfl
def DoesC (E : Env) (B : Nat) (w0 : World) (H : List Bx) (L0 : List Tn) (g : Nat) (fa la : Array Value) (I : Ps Tr) (m : Nat) : Prop := ∀ {W : World} {ts : List Tok} {H' : List Bx} {L' : List Tn}, H.Sublist H' → (∀ y ∈ L0, y ∈ L') → Cx E B w0 W (.p ts) H' L' → ts.length < m → Calls Tryz.prog g (fa ++ la) W ((oN (I ts)).P E B w0 H' L')
theorem q_cast {E : Env} {B : Nat} {w0 w : World} {ts : List Tok} {H : List Bx} {L : List Tn} {R : Rc} {n : Nat} (RC : Ct R n) (hn : ts.length + 1 < n) (hC : Cx E B w0 w (.p ts) H L) :
    Calls Tryz.prog 210 #[.pointer (some ⟨E.b, 0, none⟩)] w ((oN (castF R ts)).P E B w0 H L) := by
  obtain ⟨o, ho⟩ : ∃ o, castF R ts = o := ⟨_, rfl⟩
  rw [ho]
  unfold castF at ho
  have HO := hidk ho
  clear ho
  go_enter Tryz.func210, Tryz.ntmps210
  go_wp2_with (first
  | (refine bA ?_; clear hC; intro W k hC)
  | refine bL ?_
  | (refine bS ?_; clear hC; intro W hC)
  | (go_at_call 120; have hD := hC; clear hC; (first | refine useN (RC.expr hD (by omega)) ?_ ?_); (· intro hF W hM; clear hD; (try simp only [hF] at HO); exact ⟨rfl, stopN HO hM⟩); intro t r hF W ao cap hC; clear hD; (try simp only [hF] at HO); have hl := RC.len.expr _ _ _ hF; clear hF)
  | (go_at_call 87; have hD := hC; clear hC; (first | guard_target = Calls _ _ #[_, Value.slice (some _) 1 1] _ _; refine useU (q_need1 _ hD) ?_ ?_); (· intro hF W hM; clear hD; (try simp only [hF] at HO); exact ⟨rfl, stopN HO hM⟩); intro r hF W hC; clear hD; (try simp only [hF] at HO); have hl := needF_lt hF (Nat.succ_pos _); clear hF)
  | (guard_target = Code.wp _ (Code.region 3 _ true) _ _ _; refine wp_region_held_drew (S := HB [_]) (by kernel_rfl) (hC.drew.hbI1 0 (by rfl)) (fun hHeld => ?_); replace hC := hC.drew; refine qk 0 ?_; (try simp only [pQ]); refine qkN 2 ?_; (try simp only [pQ]); refine ry [1] ?_; refine rd1 fun K hK => ?_; go_simp; (first | (go_at_call 121; have hD := hC; clear hC; (first | refine useN (q_typeOf hD) ?_ ?_); (· intro hF W hM; clear hD; (try simp only [hF] at HO); exact ⟨rfl, stopN HO hM⟩); intro t r hF W ao cap hC; clear hD; (try simp only [hF] at HO); have hl := typF_len hF; clear hF)); refine hK.out _ _ hC.hb1' fun hHeld => ?_; clear hK K; (try simp only [pQ]); refine ry [3] ?_; refine rd1 fun K hK => ?_; refine st_of rfl ?_; refine wp_build2C hC (by rfl) (by rfl) (by rfl) ?_; clear hC; intro W k hC; refine hK.out _ _ hC.hb1' fun hHeld => ?_; clear hK K; (try simp only [pQ]); refine ry [4] ?_; refine rd1 fun K hK => ?_; go_simp; (first | (go_at_call 51; guard_target = Calls _ _ #[_, _, Value.slice none 0 0] _ _; (first | refine useDx (q_node0 _ _ hC) ?_); clear hC; intro W hC) | (go_at_call 51; guard_target = Calls _ _ #[_, _, Value.slice (some _) 1 1] _ _; refine m1 ?_; clear hC; intro W hC) | (go_at_call 51; guard_target = Calls _ _ #[_, _, Value.slice (some _) 2 2] _ _; refine m2 ?_; clear hC; intro W hC) | (go_at_call 51; guard_target = Calls _ _ #[_, _, Value.slice (some _) 3 3] _ _; refine m3 ?_; clear hC; intro W hC) | (go_at_call 51; have hD := hC; clear hC; refine m4 ?_; intro W hC; clear hD)); refine hK.out _ _ hC.hb1' fun hHeld => ?_; clear hK K; (try simp only [pQ]); refine ry [5] ?_; refine rd1 fun K hK => ?_; refine st_of rfl ?_; refine wsN ?_; clear hC; intro W hC; refine hK.out _ _ hC.hb1' fun hHeld => ?_; clear hK K; (try simp only [pQ]); refine dn ?_ _))
  all_goals first | exact ⟨rfl, stopN HO hC.mv⟩ | exact eM1
theorem q_nullif {E : Env} {B : Nat} {w0 w : World} {ts : List Tok} {H : List Bx} {L : List Tn} {R : Rc} {n : Nat} (RC : Ct R n) (hn : ts.length + 1 < n) (hC : Cx E B w0 w (.p ts) H L) :
    Calls Tryz.prog 211 #[.pointer (some ⟨E.b, 0, none⟩)] w ((oN (nullifF R ts)).P E B w0 H L) := by
  obtain ⟨o, ho⟩ : ∃ o, nullifF R ts = o := ⟨_, rfl⟩
  rw [ho]
  unfold nullifF at ho
  have HO := hidk ho
  clear ho
  go_enter Tryz.func211, Tryz.ntmps211
  go_wp2_with (first
  | (refine bA ?_; clear hC; intro W k hC)
  | refine bL ?_
  | (refine bS ?_; clear hC; intro W hC)
  | (go_at_call 120; have hD := hC; clear hC; (first | refine useN (RC.expr hD (by omega)) ?_ ?_); (· intro hF W hM; clear hD; (try simp only [hF] at HO); exact ⟨rfl, stopN HO hM⟩); intro t r hF W ao cap hC; clear hD; (try simp only [hF] at HO); have hl := RC.len.expr _ _ _ hF; clear hF)
  | (go_at_call 117; have hD := hC; clear hC; refine useW (q_needSign _ hD) ?_ ?_; (· intro hF W hM; clear hD; (try simp only [hF] at HO); exact ⟨rfl, stopN HO hM⟩); intro x r hF W hC; clear hD; (try simp only [hF] at HO); have hl := oneF_le hF; clear hF)
  | (guard_target = Code.wp _ (Code.region 3 _ true) _ _ _; refine wp_region_held_drew (S := HB [_]) (by kernel_rfl) (hC.drew.hbI1 0 (by rfl)) (fun hHeld => ?_); replace hC := hC.drew; refine qkN 0 ?_; (try simp only [pQ]); refine qk 1 ?_; (try simp only [pQ]); refine ry [2] ?_; refine rd1 fun K hK => ?_; go_simp; (first | (go_at_call 120; have hD := hC; clear hC; (first | refine useN (RC.expr hD (by omega)) ?_ ?_); (· intro hF W hM; clear hD; (try simp only [hF] at HO); exact ⟨rfl, stopN HO hM⟩); intro t r hF W ao cap hC; clear hD; (try simp only [hF] at HO); have hl := RC.len.expr _ _ _ hF; clear hF)); refine hK.out _ _ hC.hb1' fun hHeld => ?_; clear hK K; (try simp only [pQ]); refine ry [3] ?_; refine rd1 fun K hK => ?_; refine st_of rfl ?_; refine wp_build2C hC (by rfl) (by rfl) (by rfl) ?_; clear hC; intro W k hC; refine hK.out _ _ hC.hb1' fun hHeld => ?_; clear hK K; (try simp only [pQ]); refine ry [4] ?_; refine rd1 fun K hK => ?_; go_simp; (first | (go_at_call 51; guard_target = Calls _ _ #[_, _, Value.slice none 0 0] _ _; (first | refine useDx (q_node0 _ _ hC) ?_); clear hC; intro W hC) | (go_at_call 51; guard_target = Calls _ _ #[_, _, Value.slice (some _) 1 1] _ _; refine m1 ?_; clear hC; intro W hC) | (go_at_call 51; guard_target = Calls _ _ #[_, _, Value.slice (some _) 2 2] _ _; refine m2 ?_; clear hC; intro W hC) | (go_at_call 51; guard_target = Calls _ _ #[_, _, Value.slice (some _) 3 3] _ _; refine m3 ?_; clear hC; intro W hC) | (go_at_call 51; have hD := hC; clear hC; refine m4 ?_; intro W hC; clear hD)); refine hK.out _ _ hC.hb1' fun hHeld => ?_; clear hK K; (try simp only [pQ]); refine ry [5] ?_; refine rd1 fun K hK => ?_; refine st_of rfl ?_; refine wsN ?_; clear hC; intro W hC; refine hK.out _ _ hC.hb1' fun hHeld => ?_; clear hK K; (try simp only [pQ]); refine dn ?_ _))
  all_goals first | exact ⟨rfl, stopN HO hC.mv⟩ | exact eM1
theorem q_total {E : Env} {B : Nat} {w0 w : World} {ts : List Tok} {H : List Bx} {L : List Tn} {R : Rc} {n : Nat} (RC : Ct R n) (op : List UInt8) (hn : ts.length + 1 < n) (hC : Cx E B w0 w (.p ts) H L) :
    Calls Tryz.prog 213 #[.pointer (some ⟨E.b, 0, none⟩), .string ⟨op.toArray⟩] w ((oN (totF R op ts)).P E B w0 H L) := by
  obtain ⟨o, ho⟩ : ∃ o, totF R op ts = o := ⟨_, rfl⟩
  rw [ho]
  unfold totF totE at ho
  have HO := hidk ho
  clear ho
  cases hq : (op == [99, 111, 117, 110, 116])
  all_goals simp only [hq, Bool.true_and, Bool.false_and, Bool.false_eq_true, reduceIte] at HO
  all_goals
    go_enter Tryz.func213, Tryz.ntmps213
    go_wp2_with (first
    | (refine bA ?_; clear hC; intro W k hC)
    | (refine bS ?_; clear hC; intro W hC)
    | (go_at_call 21; have hD := hC; clear hC; refine useG (q_tookSign _ hD) ?_ ?_; (focus (intro hF W hC; clear hD; (try simp only [hF, Option.isSome_none, Bool.false_eq_true, Bool.and_false, reduceIte] at HO); clear hF)); rotate_left; (focus (intro x r hF W hC; clear hD; (try simp only [hF, Option.isSome_some, Bool.and_true, reduceIte] at HO); have hl := oneF_le hF; clear hF)))
    | (go_at_call 160; refine useV (q_distinct hC) ?_; clear hC; intro W hC; have hl := hC.dfl)
    | (go_at_call 120; have hD := hC; clear hC; (first | refine useN (RC.expr hD (by omega)) ?_ ?_); (· intro hF W hM; clear hD; (try simp only [hF] at HO); exact ⟨rfl, stopN HO hM⟩); intro t r hF W ao cap hC; clear hD; (try simp only [hF] at HO); have hl := RC.len.expr _ _ _ hF; clear hF)
    | (go_at_call 51; guard_target = Calls _ _ #[_, _, Value.slice none 0 0] _ _; (first | refine useDx (q_node0 _ _ hC) ?_); clear hC; intro W hC)
    | (go_at_call 51; guard_target = Calls _ _ #[_, _, Value.slice (some _) 1 1] _ _; refine m1 ?_; clear hC; intro W hC)
    | (go_at_call 51; have hD := hC; clear hC; refine m4 ?_; intro W hC; clear hD))
    all_goals first | exact ⟨rfl, stopN HO hC.mv⟩ | exact eM1
theorem q_wop1 {E : Env} {B : Nat} {w0 w : World} {ts : List Tok} {H : List Bx} {L : List Tn} {kp ko : Nat} {R : Rc} {n : Nat} (RC : Ct R n) (op : List UInt8) (hp : (kp, [.pointer (some ⟨E.b, 0, none⟩)], 38) ∈ H) (hko : (ko, [.string ⟨op.toArray⟩], 9) ∈ H) (hn : ts.length + 1 < n) (hC : Cx E B w0 w (.p ts) H L) :
    Calls Tryz.prog 212 #[.pointer (some ⟨kp, 0, none⟩), .pointer (some ⟨ko, 0, none⟩)] w ((oN (totF R op ts)).P E B w0 H L) := by
  obtain ⟨o, ho⟩ : ∃ o, totF R op ts = o := ⟨_, rfl⟩
  rw [ho]
  have HO := hidk ho
  clear ho
  go_enter Tryz.func212, Tryz.ntmps212
  go_wp2_with (first
  | (refine bA ?_; clear hC; intro W k hC)
  | refine bL ?_
  | (refine bS ?_; clear hC; intro W hC)
  | (go_at_call 213; have hD := hC; clear hC; (first | refine useN (q_total RC op hn hD) ?_ ?_); (· intro hF W hM; clear hD; (try simp only [hF] at HO); exact ⟨rfl, stopN HO hM⟩); intro t r hF W ao cap hC; clear hD; (try simp only [hF] at HO); clear hF))
  all_goals first | exact ⟨rfl, stopN HO hC.mv⟩ | exact eM1
theorem q_caseC {E : Env} {B : Nat} {w0 w : World} {ts : List Tok} {H : List Bx} {L : List Tn} {kp kh : Nat} {ao : Option Addr} {cap : Nat} {R : Rc} {n : Nat} (RC : Ct R n) (of : Tr) (hp : (kp, [.pointer (some ⟨E.b, 0, none⟩)], 38) ∈ H) (hh : (kh, ncs ao cap of, 24) ∈ H) (ht : (ao, cap, of) ∈ L) (hn : ts.length + 1 < n) (hC : Cx E B w0 w (.p ts) H L) :
    Calls Tryz.prog 214 #[.pointer (some ⟨kh, 0, none⟩), .pointer (some ⟨kp, 0, none⟩)] w ((oN (cndF R (some of) ts)).P E B w0 H L) := by
  obtain ⟨o, ho⟩ : ∃ o, cndF R (some of) ts = o := ⟨_, rfl⟩
  rw [ho]
  unfold cndF at ho
  have HO := hidk ho
  clear ho
  unfold ncs at hh
  go_enter Tryz.func214, Tryz.ntmps214
  go_wp2_with (first
  | (refine bA ?_; clear hC; intro W k hC)
  | refine bL ?_
  | (refine bS ?_; clear hC; intro W hC)
  | (guard_target = Code.wp _ (Code.region 1 _ true) _ _ _; refine wp_region_held_drew (S := HB [_, _]) (by kernel_rfl) (hC.drew.hbS2 (.tail _ hh) (.tail _ hp)) (fun hHeld => ?_); replace hC := hC.drew; refine qkN 0 ?_; (try simp only [pQ]); refine qkL 1 ?_; (try simp only [pQ]); refine ry [2] ?_; refine rd1 fun K hK => ?_; go_simp; (first | (go_at_call 120; have hD := hC; clear hC; (first | refine useN (RC.expr hD (by omega)) ?_ ?_); (· intro hF W hM; clear hD; (try simp only [hF] at HO); exact ⟨rfl, stopN HO hM⟩); intro t r hF W ao cap hC; clear hD; (try simp only [hF] at HO); have hl := RC.len.expr _ _ _ hF; clear hF)); refine hK.out _ _ hC.hb2' fun hHeld => ?_; clear hK K; (try simp only [pQ]); refine ry [3] ?_; refine rd1 fun K hK => ?_; refine st_of rfl ?_; refine wp_build2C hC (by rfl) (by rfl) (by rfl) ?_; clear hC; intro W k hC; refine hK.out _ _ hC.hb2' fun hHeld => ?_; clear hK K; (try simp only [pQ]); refine ry [4] ?_; refine rd1 fun K hK => ?_; go_simp; (first | (go_at_call 51; guard_target = Calls _ _ #[_, _, Value.slice (some _) 2 2] _ _; (first | refine useDx (q_node2 _ _ hC (.tail _ ht) (.head _)) ?_); clear hC; intro W hC)); refine hK.out _ _ hC.hb2' fun hHeld => ?_; clear hK K; (try simp only [pQ]); refine ry [5] ?_; refine rd1 fun K hK => ?_; refine st_of rfl ?_; refine wsN ?_; clear hC; intro W hC; refine hK.out _ _ hC.hb2' fun hHeld => ?_; clear hK K; (try simp only [pQ]); refine dn ?_ _))
  all_goals first | exact ⟨rfl, stopN HO hC.mv⟩ | exact eM1
theorem q_when {E : Env} {B : Nat} {w0 w : World} {ts : List Tok} {H : List Bx} {L : List Tn} {g m : Nat} {fa la : Array Value} {L0 : List Tn} {of : Option Tr} {R : Rc} {n : Nat} (RC : Ct R n) (eg : Enters Tryz.prog g) (hI : DoesC E B w0 H L0 g fa la (cndF R of) m) (hL0 : ∀ y ∈ L0, y ∈ L) (hm : ts.length ≤ m) (hn : ts.length < n) (hC : Cx E B w0 w (.p ts) H L) :
    Calls Tryz.prog 215 #[.pointer (some ⟨E.b, 0, none⟩), .func (.func g) fa la] w ((oN (whenF R of ts)).P E B w0 H L) := by
  obtain ⟨o, ho⟩ : ∃ o, whenF R of ts = o := ⟨_, rfl⟩
  rw [ho]
  rw [whenF_eq] at ho
  have HO := hidk ho
  clear ho
  unfold Enters at eg
  go_enter Tryz.func215, Tryz.ntmps215
  go_wp2_with (first
  | (refine bA ?_; clear hC; intro W k hC)
  | refine bL ?_
  | (refine bS ?_; clear hC; intro W hC)
  | (go_at_call 87; have hD := hC; clear hC; (first | guard_target = Calls _ _ #[_, Value.slice (some _) 1 1] _ _; refine useU (q_need1 _ hD) ?_ ?_); (· intro hF W hM; clear hD; (try simp only [hF] at HO); exact ⟨rfl, stopN HO hM⟩); intro r hF W hC; clear hD; (try simp only [hF] at HO); have hl := needF_lt hF (Nat.succ_pos _); clear hF)
    | (have hD := hC; clear hC; refine useN (hI mSub (by intro y hy; (repeat (first | exact hL0 y hy | apply List.mem_cons_of_mem)); done) hD (by omega)) ?_ ?_; (· intro hF W hM; clear hD; (try simp only [hF] at HO); exact ⟨rfl, stopN HO hM⟩); intro t r hF W ao cap hC; clear hD; (try simp only [hF] at HO); have hl := cndF_len RC.len hF; clear hF)
  | (guard_target = Code.wp _ (Code.region 4 _ true) _ _ _; refine wp_region_held_drew (S := HB [_]) (by kernel_rfl) (hC.drew.hbI1 0 (by rfl)) (fun hHeld => ?_); replace hC := hC.drew; refine qkN 0 ?_; (try simp only [pQ]); refine qk 1 ?_; (try simp only [pQ]); refine ry [2] ?_; refine rd1 fun K hK => ?_; go_simp; (first | (go_at_call 120; have hD := hC; clear hC; (first | refine useN (RC.expr hD (by omega)) ?_ ?_); (· intro hF W hM; clear hD; (try simp only [hF] at HO); exact ⟨rfl, stopN HO hM⟩); intro t r hF W ao cap hC; clear hD; (try simp only [hF] at HO); have hl := RC.len.expr _ _ _ hF; clear hF)); refine hK.out _ _ hC.hb1' fun hHeld => ?_; clear hK K; (try simp only [pQ]); refine ry [3] ?_; refine rd1 fun K hK => ?_; refine st_of rfl ?_; refine wp_build2C hC (by rfl) (by rfl) (by rfl) ?_; clear hC; intro W k hC; refine hK.out _ _ hC.hb1' fun hHeld => ?_; clear hK K; (try simp only [pQ]); refine ry [4] ?_; refine rd1 fun K hK => ?_; go_simp; (first | (go_at_call 51; guard_target = Calls _ _ #[_, _, Value.slice none 0 0] _ _; (first | refine useDx (q_node0 _ _ hC) ?_); clear hC; intro W hC) | (go_at_call 51; guard_target = Calls _ _ #[_, _, Value.slice (some _) 1 1] _ _; refine m1 ?_; clear hC; intro W hC) | (go_at_call 51; guard_target = Calls _ _ #[_, _, Value.slice (some _) 2 2] _ _; refine m2 ?_; clear hC; intro W hC) | (go_at_call 51; guard_target = Calls _ _ #[_, _, Value.slice (some _) 3 3] _ _; refine m3 ?_; clear hC; intro W hC) | (go_at_call 51; have hD := hC; clear hC; refine m4 ?_; intro W hC; clear hD)); refine hK.out _ _ hC.hb1' fun hHeld => ?_; clear hK K; (try simp only [pQ]); refine ry [5] ?_; refine rd1 fun K hK => ?_; refine st_of rfl ?_; refine wsN ?_; clear hC; intro W hC; refine hK.out _ _ hC.hb1' fun hHeld => ?_; clear hK K; (try simp only [pQ]); refine dn ?_ _))
  all_goals first | exact ⟨rfl, stopN HO hC.mv⟩ | exact eM1
end Go.Proofs.YtaenpacfbheppaaGreatDoor

namespace Go.Proofs.YtaenpacfbheppaaGreatDoor
open Go.RowKit
theorem needF_lt1 {w : List UInt8} {ts r : List Tok} (h : needF [w] ts = some r) : r.length < ts.length := by
  have := needF_len h
  simp at this; omega
theorem whenF_lt {R : Rc} (hR : R.Len) {of : Option Tr} {ts r : List Tok} {x : Tr} (h : whenF R of ts = some (x, r)) : r.length < ts.length := by
  have hE := hR.expr
  unfold Len at hE
  unfold whenF at h
  cases h1 : needF [[119, 104, 101, 110]] ts with
  | none => simp [h1] at h
  | some r1 =>
    cases h2 : R.expr r1 with
    | none => simp [h1, h2] at h
    | some p =>
      obtain ⟨c, r2⟩ := p
      cases h3 : needF [[116, 104, 101, 110]] r2 with
      | none => simp [h1, h2, h3] at h
      | some r3 =>
        cases h4 : R.expr r3 with
        | none => simp [h1, h2, h3, h4] at h
        | some q =>
          obtain ⟨e, r4⟩ := q
          simp only [h1, h2, h3, h4, Option.some.injEq, Prod.mk.injEq] at h
          have := needF_lt1 h1
          have := needF_lt1 h3
          have := hE _ _ _ h2
          have := hE _ _ _ h4
          obtain ⟨_, rfl⟩ := h
          omega
def cTl (R : Rc) (x : Option (List Tr × List Tok)) : Option (Tr × List Tok) := match x with
  | none => none
  | some (a, r2) => if tkB [[101, 108, 115, 101]] r2 then match R.expr (tkR [[101, 108, 115, 101]] r2) with
      | none => none
      | some (e, r3) => caseEndF a e r3
    else caseEndF a (nd [110, 117, 108, 108] [] []) r2
theorem caseWhF_eq (R : Rc) (of : Option Tr) (ts : List Tok) : caseWhF R of ts = match whenF R of ts with
  | none => none
  | some (x, r) => cTl R (whN R of (r.length + 1) [x] r) := rfl
theorem q_caseT {E : Env} {B : Nat} {w0 w : World} {ts : List Tok} {H : List Bx} {L : List Tn} {R : Rc} {n : Nat} (RC : Ct R n) (hn : ts.length < n) (hC : Cx E B w0 w (.p ts) H L) (hw : sdB 0 0 [119, 104, 101, 110] ts = true) :
    Calls Tryz.prog 209 #[.pointer (some ⟨E.b, 0, none⟩)] w ((oN (caseF R ts)).P E B w0 H L) := by
  obtain ⟨o, ho⟩ : ∃ o, caseF R ts = o := ⟨_, rfl⟩
  rw [ho]
  unfold caseF at ho
  rw [if_pos hw, caseWhF_eq] at ho
  have HO := hidk ho
  clear ho
  have h600 := hC.le600
  go_enter Tryz.func209, Tryz.ntmps209
  go_wp2_with (first
  | (refine bA ?_; clear hC; intro W k hC)
  | (refine m0 ?_; clear hC; intro W hC; simp only [pS] at hC; (try simp only [pP]))
  | ((first | refine hC.bP ?_ | refine hC.bN ?_ | refine hC.b1 ?_); clear hC; intro W k hC; (try simp only [pP]))
  | refine bL ?_
  | (refine bS ?_; clear hC; intro W hC)
  | (go_at_call 79; refine useV (q_stands hC 0 (by decide) 0 [119, 104, 101, 110]) ?_; clear hC; intro W hC; rw [hw])
  | (go_at_call 215; have hD := hC; clear hC; (first | refine useN (q_when (n := n) (of := none) (L0 := []) (m := n - 1) RC ent_expr (fun hs hL hE hl => by rw [expr_of]; exact RC.expr hE (by omega)) (fun y hy => by cases hy) (by omega) (by omega) hD) ?_ ?_); (· intro hF W hM; clear hD; (try simp only [hF] at HO); exact ⟨rfl, stopN HO hM⟩); intro t r hF W ao cap hC; clear hD; (try simp only [hF] at HO); have hl := whenF_lt RC.len hF; clear hF))
  rename_i Wa k1 Wb k2 Wc Wd Ka Kb
  go_loopg [5] (r.length) (fun kx sv wr => ∃ (k : Nat) (l : List Tr) (cap : Nat) (cur : List Value) (ks : List Kid) (L' : List Tn) (ts' : List Tok) (f : Nat), sv = .slice (some ⟨k, 0, none⟩) l.length cap ∧ ts'.length ≤ kx ∧ Hid (Cx E B w0 wr (.p ts') ((k, cur, 24) :: (k2, [.string ⟨#[]⟩, .string ⟨#[]⟩, .int .i64 0, .slice none 0 0], 24) :: (k1, [.pointer (some ⟨E.b, 0, none⟩)], 38) :: H) L') ∧ Hid (Rw cap l ks cur) ∧ Hid (Rin ks l L') ∧ Hid (∀ y ∈ L, y ∈ L') ∧ Hid (cTl R (whN R none f l ts') = o) ∧ ts'.length < f ∧ l.length + ts'.length ≤ 601 ∧ ts'.length < n ∧ 0 < l.length)
  case atStart => exact ⟨_, [t], 1, _, _, _, r, r.length + 1, rfl, Nat.le_refl _, hC, Rw.one, Rin.one List.mem_cons_self, fun y hy => List.mem_cons_of_mem _ hy, HO, by omega, by simp; omega, by omega, by simp⟩
  case round =>
    rename World => wr
    clear hC HO hl
    obtain ⟨k, l, cap, cur, ks, L', ts', f, rfl, hk, hC', hR, hN, hS, HO2, hf, h6, hmm, h0⟩ := hrel
    have hC := hC'.out
    clear hC'
    obtain ⟨f, rfl⟩ : ∃ f', f = f' + 1 := ⟨f - 1, by omega⟩
    obtain ho := HO2.out
    clear HO2
    unfold whN at ho
    have HO := hidk ho
    clear ho
    go_wp2_with (first
    | (refine bA ?_; clear hC; intro W k hC)
    | (refine m0 ?_; clear hC; intro W hC; simp only [pS] at hC; (try simp only [pP]))
    | ((first | refine hC.bP ?_ | refine hC.bN ?_ | refine hC.b1 ?_); clear hC; intro W k hC; (try simp only [pP]))
    | refine bL ?_
    | (refine bS ?_; clear hC; intro W hC)
    | (go_at_call 79; have hD := hC; clear hC; refine useB (q_stands hD 0 (by decide) 0 [119, 104, 101, 110]) ?_ ?_; (focus (intro hb W hC; clear hD; (try simp only [hb, reduceIte] at HO); clear hb)); rotate_left; (focus (intro hb W hC; clear hD; (try simp only [hb, reduceIte, Bool.false_eq_true] at HO); (try simp only [cTl, caseEndF] at HO); clear hb)))
    | (go_at_call 215; have hD := hC; clear hC; (first | refine useN (q_when (n := n) (of := none) (L0 := []) (m := n - 1) RC ent_expr (fun hs hL hE hl => by rw [expr_of]; exact RC.expr hE (by omega)) (fun y hy => by cases hy) (by omega) (by omega) hD) ?_ ?_); (· intro hF W hM; clear hD; (try simp only [hF] at HO); exact ⟨rfl, stopN HO hM⟩); intro t r hF W ao cap hC; clear hD; (try simp only [hF] at HO); have hl := whenF_lt RC.len hF; clear hF)
    | (go_at_call 50; have hD := hC; clear hC; (first | guard_target = Calls _ _ #[_, Value.slice (some _) 1 1] _ _; refine useB (q_took1 [101, 108, 115, 101] hD) ?_ ?_); (focus (intro hb W hC; clear hD; (try simp only [hb, reduceIte, pB] at HO); (try have hl := tkR_ls hb (by simp)); clear hb)); rotate_left; (focus (intro hb W hC; clear hD; (try simp only [tkR_no hb] at HO hC); (try simp only [hb, reduceIte, pB] at HO); clear hb)))
    | (go_at_call 120; have hD := hC; clear hC; (first | refine useN (RC.expr hD (by omega)) ?_ ?_); (· intro hF W hM; clear hD; (try simp only [hF] at HO); exact ⟨rfl, stopN HO hM⟩); intro t r hF W ao cap hC; clear hD; (try simp only [hF] at HO); have hl := RC.len.expr _ _ _ hF; clear hF)
    | (go_at_call 87; have hD := hC; clear hC; (first | guard_target = Calls _ _ #[_, Value.slice (some _) 1 1] _ _; refine useU (q_need1 [101, 110, 100] hD) ?_ ?_); (· intro hF W hM; clear hD; (try simp only [hF] at HO); exact ⟨rfl, stopN HO hM⟩); intro r hF W hC; clear hD; (try simp only [hF] at HO); have hl := needF_le hF; clear hF)
    | (at_builtin; have hD := hC; clear hC; refine wl_app1 rfl hD (.head _) 0 (by rfl) (by rfl) (by rfl) rfl hR.out (hN.out.mono mL) (by rfl) (by omega) ?_; clear hD; intro W k cap2 cur2 hC hR2 hN2; simp only [pS] at hC; (try simp only [pP]))
    | (at_builtin; have hD := hC; clear hC; refine wl_app1 rfl hD (.head _) 1 (by rfl) (by rfl) (by rfl) rfl hR.out (hN.out.mono mL) (by rfl) (by omega) ?_; clear hD; intro W k cap2 cur2 hD hR2 hN2; simp only [List.set_cons_zero, List.set_cons_succ] at hD; have hC := hD.madeAt 1 (by rfl) hR2 hN2 (by simp) [] [] 0; simp only [List.eraseIdx_cons_zero, List.eraseIdx_cons_succ] at hC; clear hD; (try simp only [pP]))
    | (go_at_call 51; guard_target = Calls _ _ #[_, _, Value.slice none 0 0] _ _; (first | refine useDx (q_node0 _ _ hC) ?_); clear hC; intro W hC)
    | (go_at_call 51; guard_target = Calls _ _ #[_, _, Value.slice (some _) 1 1] _ _; refine m1 ?_; clear hC; intro W hC)
    | (go_at_call 51; guard_target = Calls _ _ #[_, _, Value.slice (some _) 2 2] _ _; refine m2 ?_; clear hC; intro W hC)
    | (go_at_call 51; guard_target = Calls _ _ #[_, _, Value.slice (some _) 3 3] _ _; refine m3 ?_; clear hC; intro W hC)
    | (go_at_call 51; have hD := hC; clear hC; refine m4 ?_; intro W hC; clear hD))
    rotate_left 2
    · go_roundg (r.length)
      case measure => omega
      case rel => exact ⟨k, l ++ [t], cap2, cur2, _, _, r, f, (by simp), Nat.le_refl _, hC, hR2, hN2, (fun y hy => List.mem_cons_of_mem _ (hS.out y hy)), HO, by omega, by simp; omega, by omega, by simp⟩
    all_goals
      refine hC.rc ?_
      refine endN HO (hC.fin ?_ (.head _) ?_)
      · (repeat (first | exact List.Sublist.refl _ | apply List.Sublist.cons)); done
      · intro y hy
        have hy := hS.out y hy
        (repeat (first | exact hy | apply List.mem_cons_of_mem)); done
theorem q_caseW {E : Env} {B : Nat} {w0 w : World} {ts : List Tok} {H : List Bx} {L : List Tn} {R : Rc} {n : Nat} (RC : Ct R n) (hn : ts.length + 1 < n) (hC : Cx E B w0 w (.p ts) H L) (hw : sdB 0 0 [119, 104, 101, 110] ts = false) :
    Calls Tryz.prog 209 #[.pointer (some ⟨E.b, 0, none⟩)] w ((oN (caseF R ts)).P E B w0 H L) := by
  obtain ⟨o, ho⟩ : ∃ o, caseF R ts = o := ⟨_, rfl⟩
  rw [ho]
  unfold caseF at ho
  rw [if_neg (by rw [hw]; simp)] at ho
  simp only [caseWhF_eq] at ho
  have HO := hidk ho
  clear ho
  have h600 := hC.le600
  go_enter Tryz.func209, Tryz.ntmps209
  go_wp2_with (first
  | (refine bA ?_; clear hC; intro W k hC)
  | (refine m0 ?_; clear hC; intro W hC; simp only [pS] at hC; (try simp only [pP]))
  | ((first | refine hC.bP ?_ | refine hC.bN ?_ | refine hC.b1 ?_); clear hC; intro W k hC; (try simp only [pP]))
  | refine bL ?_
  | (refine bS ?_; clear hC; intro W hC)
  | (go_at_call 79; refine useV (q_stands hC 0 (by decide) 0 [119, 104, 101, 110]) ?_; clear hC; intro W hC; rw [hw])
  | (go_at_call 120; have hD := hC; clear hC; (first | refine useN (RC.expr hD (by omega)) ?_ ?_); (· intro hF W hM; clear hD; (try simp only [hF] at HO); exact ⟨rfl, stopN HO hM⟩); intro tO r hF W aO pO hC; have HMT : Hid ((aO, pO, tO) ∈ (aO, pO, tO) :: L) := List.mem_cons_self; clear hD; (try simp only [hF] at HO); have hl := RC.len.expr _ _ _ hF; clear hF)
  | (go_at_call 215; have hD := hC; clear hC; (first | refine useN (q_when (n := n) (of := some tO) (L0 := [(aO, pO, tO)]) (m := n - 1) RC ent_caseOf1 (fun hs hL hE hl => q_caseC RC tO (hs.subset (by repeat (first | exact List.mem_cons_self | apply List.mem_cons_of_mem))) (hs.subset (by repeat (first | exact List.mem_cons_self | apply List.mem_cons_of_mem))) (hL _ (.head _)) (by omega) hE) (fun y hy => by rw [List.mem_singleton] at hy; subst hy; (repeat (first | exact HMT.out | apply List.mem_cons_of_mem)); done) (by omega) (by omega) hD) ?_ ?_); (· intro hF W hM; clear hD; (try simp only [hF] at HO); exact ⟨rfl, stopN HO hM⟩); intro t r hF W ao cap hC; clear hD; (try simp only [hF] at HO); have hl := whenF_lt RC.len hF; clear hF))
  rename_i Wa k1 Wb k2 Wc rO Wd hlO We k4 Wf Wg Ka Kb
  go_loopg [5] (r.length) (fun kx sv wr => ∃ (k : Nat) (l : List Tr) (cap : Nat) (cur : List Value) (ks : List Kid) (L' : List Tn) (ts' : List Tok) (f : Nat), sv = .slice (some ⟨k, 0, none⟩) l.length cap ∧ ts'.length ≤ kx ∧ Hid (Cx E B w0 wr (.p ts') ((k, cur, 24) :: (k4, ncs aO pO tO, 24) :: (k2, [.string ⟨#[]⟩, .string ⟨#[]⟩, .int .i64 0, .slice none 0 0], 24) :: (k1, [.pointer (some ⟨E.b, 0, none⟩)], 38) :: H) L') ∧ Hid (Rw cap l ks cur) ∧ Hid (Rin ks l L') ∧ Hid (∀ y ∈ L, y ∈ L') ∧ Hid ((aO, pO, tO) ∈ L') ∧ Hid (cTl R (whN R (some tO) f l ts') = o) ∧ ts'.length < f ∧ l.length + ts'.length ≤ 601 ∧ ts'.length < n ∧ 0 < l.length)
  case atStart => exact ⟨_, [t], 1, _, _, _, r, r.length + 1, rfl, Nat.le_refl _, hC, Rw.one, Rin.one List.mem_cons_self, fun y hy => List.mem_cons_of_mem _ (List.mem_cons_of_mem _ hy), List.mem_cons_of_mem _ HMT.out, HO, by omega, by simp; omega, by omega, by simp⟩
  case round =>
    rename World => wr
    clear hC HO hl HMT
    obtain ⟨k, l, cap, cur, ks, L', ts', f, rfl, hk, hC', hR, hN, hS, HMT, HO2, hf, h6, hmm, h0⟩ := hrel
    have hC := hC'.out
    clear hC'
    obtain ⟨f, rfl⟩ : ∃ f', f = f' + 1 := ⟨f - 1, by omega⟩
    obtain ho := HO2.out
    clear HO2
    unfold whN at ho
    have HO := hidk ho
    clear ho
    go_wp2_with (first
    | (refine bA ?_; clear hC; intro W k hC)
    | (refine m0 ?_; clear hC; intro W hC; simp only [pS] at hC; (try simp only [pP]))
    | ((first | refine hC.bP ?_ | refine hC.bN ?_ | refine hC.b1 ?_); clear hC; intro W k hC; (try simp only [pP]))
    | refine bL ?_
    | (refine bS ?_; clear hC; intro W hC)
    | (go_at_call 79; have hD := hC; clear hC; refine useB (q_stands hD 0 (by decide) 0 [119, 104, 101, 110]) ?_ ?_; (focus (intro hb W hC; clear hD; (try simp only [hb, reduceIte] at HO); clear hb)); rotate_left; (focus (intro hb W hC; clear hD; (try simp only [hb, reduceIte, Bool.false_eq_true] at HO); (try simp only [cTl, caseEndF] at HO); clear hb)))
    | (go_at_call 215; have hD := hC; clear hC; (first | refine useN (q_when (n := n) (of := some tO) (L0 := [(aO, pO, tO)]) (m := n - 1) RC ent_caseOf1 (fun hs hL hE hl => q_caseC RC tO (hs.subset (by repeat (first | exact List.mem_cons_self | apply List.mem_cons_of_mem))) (hs.subset (by repeat (first | exact List.mem_cons_self | apply List.mem_cons_of_mem))) (hL _ (.head _)) (by omega) hE) (fun y hy => by rw [List.mem_singleton] at hy; subst hy; (repeat (first | exact HMT.out | apply List.mem_cons_of_mem)); done) (by omega) (by omega) hD) ?_ ?_); (· intro hF W hM; clear hD; (try simp only [hF] at HO); exact ⟨rfl, stopN HO hM⟩); intro t r hF W ao cap hC; clear hD; (try simp only [hF] at HO); have hl := whenF_lt RC.len hF; clear hF)
    | (go_at_call 50; have hD := hC; clear hC; (first | guard_target = Calls _ _ #[_, Value.slice (some _) 1 1] _ _; refine useB (q_took1 [101, 108, 115, 101] hD) ?_ ?_); (focus (intro hb W hC; clear hD; (try simp only [hb, reduceIte, pB] at HO); (try have hl := tkR_ls hb (by simp)); clear hb)); rotate_left; (focus (intro hb W hC; clear hD; (try simp only [tkR_no hb] at HO hC); (try simp only [hb, reduceIte, pB] at HO); clear hb)))
    | (go_at_call 120; have hD := hC; clear hC; (first | refine useN (RC.expr hD (by omega)) ?_ ?_); (· intro hF W hM; clear hD; (try simp only [hF] at HO); exact ⟨rfl, stopN HO hM⟩); intro t r hF W ao cap hC; clear hD; (try simp only [hF] at HO); have hl := RC.len.expr _ _ _ hF; clear hF)
    | (go_at_call 87; have hD := hC; clear hC; (first | guard_target = Calls _ _ #[_, Value.slice (some _) 1 1] _ _; refine useU (q_need1 [101, 110, 100] hD) ?_ ?_); (· intro hF W hM; clear hD; (try simp only [hF] at HO); exact ⟨rfl, stopN HO hM⟩); intro r hF W hC; clear hD; (try simp only [hF] at HO); have hl := needF_le hF; clear hF)
    | (at_builtin; have hD := hC; clear hC; refine wl_app1 rfl hD (.head _) 0 (by rfl) (by rfl) (by rfl) rfl hR.out (hN.out.mono mL) (by rfl) (by omega) ?_; clear hD; intro W k cap2 cur2 hC hR2 hN2; simp only [pS] at hC; (try simp only [pP]))
    | (at_builtin; have hD := hC; clear hC; refine wl_app1 rfl hD (.head _) 1 (by rfl) (by rfl) (by rfl) rfl hR.out (hN.out.mono mL) (by rfl) (by omega) ?_; clear hD; intro W k cap2 cur2 hD hR2 hN2; simp only [List.set_cons_zero, List.set_cons_succ] at hD; have hC := hD.madeAt 1 (by rfl) hR2 hN2 (by simp) [] [] 0; simp only [List.eraseIdx_cons_zero, List.eraseIdx_cons_succ] at hC; clear hD; (try simp only [pP]))
    | (go_at_call 51; guard_target = Calls _ _ #[_, _, Value.slice none 0 0] _ _; (first | refine useDx (q_node0 _ _ hC) ?_); clear hC; intro W hC)
    | (go_at_call 51; guard_target = Calls _ _ #[_, _, Value.slice (some _) 1 1] _ _; refine m1 ?_; clear hC; intro W hC)
    | (go_at_call 51; guard_target = Calls _ _ #[_, _, Value.slice (some _) 2 2] _ _; refine m2 ?_; clear hC; intro W hC)
    | (go_at_call 51; guard_target = Calls _ _ #[_, _, Value.slice (some _) 3 3] _ _; refine m3 ?_; clear hC; intro W hC)
    | (go_at_call 51; have hD := hC; clear hC; refine m4 ?_; intro W hC; clear hD))
    rotate_left 2
    · go_roundg (r.length)
      case measure => omega
      case rel => exact ⟨k, l ++ [t], cap2, cur2, _, _, r, f, (by simp), Nat.le_refl _, hC, hR2, hN2, (fun y hy => List.mem_cons_of_mem _ (hS.out y hy)), List.mem_cons_of_mem _ HMT.out, HO, by omega, by simp; omega, by omega, by simp⟩
    all_goals
      refine hC.rc ?_
      refine endN HO (hC.fin ?_ (.head _) ?_)
      · (repeat (first | exact List.Sublist.refl _ | apply List.Sublist.cons)); done
      · intro y hy
        have hy := hS.out y hy
        (repeat (first | exact hy | apply List.mem_cons_of_mem)); done
theorem q_caseOf {E : Env} {B : Nat} {w0 w : World} {ts : List Tok} {H : List Bx} {L : List Tn} {R : Rc} {n : Nat} (RC : Ct R n) (hn : ts.length + 1 < n) (hC : Cx E B w0 w (.p ts) H L) : Calls Tryz.prog 209 #[.pointer (some ⟨E.b, 0, none⟩)] w ((oN (caseF R ts)).P E B w0 H L) := by
  cases hw : sdB 0 0 [119, 104, 101, 110] ts with
  | true => exact q_caseT RC (by omega) hC hw
  | false => exact q_caseW RC hn hC hw
end Go.Proofs.YtaenpacfbheppaaGreatDoor
