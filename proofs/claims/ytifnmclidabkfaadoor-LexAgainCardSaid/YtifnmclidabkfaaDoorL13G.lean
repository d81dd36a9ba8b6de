/- What a world holds of the program's signs and of Go's library; the program's word and number. -/
import Derived.Test.YtifnmclidabkfaaDoorL13F
import Derived.Lib.LaidTab
import Derived.Lib.SmallJoins
import Derived.Lib.ParseIntBCases
namespace Go.Proofs.YtifnmclidabkfaaDoor
open Go.RowKit Go.Joins
set_option linter.unusedVariables false
set_option linter.unusedSimpArgs false

abbrev signsV : Array Value := #[.string ⟨#[60, 61]⟩, .string ⟨#[62, 61]⟩, .string ⟨#[60, 62]⟩, .string ⟨#[124, 124]⟩, .string ⟨#[40]⟩, .string ⟨#[41]⟩, .string ⟨#[44]⟩, .string ⟨#[46]⟩, .string ⟨#[59]⟩, .string ⟨#[61]⟩, .string ⟨#[60]⟩, .string ⟨#[62]⟩, .string ⟨#[43]⟩, .string ⟨#[45]⟩, .string ⟨#[42]⟩, .string ⟨#[47]⟩]
theorem gSigns : Tryd.prog.globalNamed "stile/lex.signs" = some 0 := by kernel_rfl
theorem gErr : Tryd.prog.globalNamed "strconv.ErrRange" = some 4 := by kernel_rfl
structure LibW (a : Addr) (w : World) : Prop where
  signs : w.var? Tryd.prog "stile/lex.signs" = some signsV
  err : w.var? Tryd.prog "strconv.ErrRange" = some #[.iface 87 (.pointer (some a))]
theorem LibW.keep {a : Addr} {w w' : World} (h : LibW a w) (hb : Below w.heap.size w w') : LibW a w' :=
  ⟨var_stays gSigns h.signs hb (Nat.le_refl _), var_stays gErr h.err hb (Nat.le_refl _)⟩
theorem var_lt {w : World} {n : String} {g : Nat} {cs : Array Value} (hg : Tryd.prog.globalNamed n = some g) (h : w.var? Tryd.prog n = some cs) : g < w.heap.size ∧ ∀ w' : World, w'.heap[g]? = w.heap[g]? → w'.var? Tryd.prog n = some cs := by
  unfold World.var? at h
  rw [hg] at h
  simp only [Option.bind_some] at h
  refine ⟨?_, fun w' hw => ?_⟩
  · rcases Nat.lt_or_ge g w.heap.size with h' | h'
    · exact h'
    · simp [Array.getElem?_eq_none h'] at h
  · unfold World.var?
    rw [hg]
    simp only [Option.bind_some]
    rw [hw]
    exact h
theorem LibW.keepF {a : Addr} {w w' : World} {F : Nat → Prop} (h : LibW a w) (hf : Fr w w' F) (h1 : ¬ F 0) (h2 : ¬ F 4) : LibW a w' := by
  obtain ⟨l1, k1⟩ := var_lt gSigns h.signs
  obtain ⟨l2, k2⟩ := var_lt gErr h.err
  exact ⟨k1 w' (hf.block _ l1 h1), k2 w' (hf.block _ l2 h2)⟩
theorem LibW.sgCell {a : Addr} {w : World} (h : LibW a w) (i : Nat) : w.cell? ⟨0, i, none⟩ = signsV[i]? := World.var?_cell gSigns h.signs i
theorem LibW.ne {a : Addr} {w : World} {b : Nat} {s : ByteArray} {p : Nat} (h : LibW a w) (hs : Sc w b s p) : b ≠ 0 ∧ b ≠ 4 := by
  constructor
  · intro e
    have h1 := h.sgCell 1
    have h2 := hs.c1
    rw [e] at h2
    rw [h1] at h2
    cases h2
  · intro e
    have h1 := World.var?_cell gErr h.err 0
    have h2 := hs.c0
    rw [e] at h2
    rw [h1] at h2
    cases h2
theorem LibW.keepS {a : Addr} {w w' : World} {b : Nat} {s : ByteArray} {p : Nat} (h : LibW a w) (hs : Sc w b s p) (hf : Fr w w' (fun i => i = b)) : LibW a w' :=
  h.keepF hf (fun e => (h.ne hs).1 e.symm) (fun e => (h.ne hs).2 e.symm)
/-- The states. -/
def stB : Nat → ByteArray
  | 1 => ⟨#[52, 50, 54, 48, 49]⟩
  | 2 => ⟨#[50, 50, 48, 48, 51]⟩
  | 3 => ⟨#[50, 50, 48, 48, 49]⟩
  | _ => ⟨#[53, 52, 48, 48, 48]⟩
def st0 : ByteArray := ⟨#[48, 48, 48, 48, 48]⟩
/-- What a part of next comes to that answers a text. -/
inductive StTo (w : World) (b : Nat) (s : ByteArray) (p : Nat) (o : Stp) (e : Ending) (w' : World) : Prop
  | tk (k : Int) (t : List UInt8) (v : Int) (n : Nat) (ho : o = .tk k t v n) (he : e = .returned (.tuple #[.string ⟨t.toArray⟩, .string ⟨#[48, 48, 48, 48, 48]⟩])) (sc : Sc w' b s (p + n)) (fr : Fr w w' (fun i => i = b))
  | no (er : Nat) (ho : o = .no er) (he : e = .returned (.tuple #[.string ⟨#[]⟩, .string (stB er)])) (q : Nat) (sc : Sc w' b s q) (fr : Fr w w' (fun i => i = b))
inductive NuTo (w : World) (b : Nat) (s : ByteArray) (p : Nat) (o : Stp) (e : Ending) (w' : World) : Prop
  | tk (k : Int) (t : List UInt8) (v : Int) (n : Nat) (ho : o = .tk k t v n) (ht : t = []) (he : e = .returned (.tuple #[.int .i64 v, .string ⟨#[48, 48, 48, 48, 48]⟩])) (sc : Sc w' b s (p + n)) (fr : Fr w w' (fun i => i = b))
  | no (er : Nat) (ho : o = .no er) (he : e = .returned (.tuple #[.int .i64 0, .string (stB er)])) (q : Nat) (sc : Sc w' b s q) (fr : Fr w w' (fun i => i = b))
theorem ext_tw (s : ByteArray) (p : Nat) (k : UInt8 → Bool) : (s.extract p (p + ((rest s p).takeWhile k).length)).data.toList = (rest s p).takeWhile k := by
  rw [ext_take, tw_pre]
theorem size_of_list (x : ByteArray) : x.size = x.data.toList.length := by simp
theorem fresh_back {B : Nat} {w : World} {v : Value} {l : List UInt8} (h : Lib.FreshBytes B w v l) : (convert 47 9 v).run Tryd.prog w = .ok (.string ⟨l.toArray⟩) w := by
  obtain ⟨g, cap, zs, rfl, _, hlc, _, hz, hr, hb, hc, _⟩ := h
  refine run_convert_bytes_back w 47 9 5 ⟨g, 0, none⟩ cap l Tryd.underlying47 Tryd.underlying5 Tryd.underlying9 (fun j hj => ?_)
  rw [Addr.add_mid, Nat.zero_add, hc j (by omega)]
  have hjz : j < zs.length := by omega
  have h1 : l[j]? = (Lib.bytesOf (zs.take l.length))[j]? := by rw [hb]
  rw [List.getElem?_eq_getElem hj] at h1
  simp only [Lib.bytesOf, List.getElem?_map, List.getElem?_take, if_pos hj, List.getElem?_eq_getElem hjz, Option.map_some, Option.some.injEq] at h1
  have h2 := hr zs[j] (List.getElem_mem hjz)
  rw [h1]
  simp only [List.getD, List.getElem?_eq_getElem hjz, Option.getD_some, Option.some.injEq, Value.int.injEq, true_and]
  rw [UInt8.toNat_ofNat']
  omega
theorem lowerB_lowc : Lib.lowerB = lowc := by
  funext c
  rfl
theorem wd_small {c : UInt8} (h : isWd c = true) : c.toNat < 128 := by
  have : ∀ n : Fin 256, isWd (UInt8.ofNat n.val) = true → (UInt8.ofNat n.val).toNat < 128 := by decide +kernel
  have h2 := this ⟨c.toNat, c.toNat_lt⟩
  simp only [UInt8.ofNat_toNat] at h2
  exact h2 h
theorem bytesOf_nat (l : List UInt8) : Lib.bytesOf (l.map fun c => (c.toNat : Int)) = l := by
  unfold Lib.bytesOf
  rw [List.map_map]
  conv => rhs; rw [← List.map_id l]
  refine List.map_congr_left (fun c _ => ?_)
  simp
theorem below_bytesW (w : World) (e : TypeId) (t : ByteArray) : Below w.heap.size w (Lib.bytesWorld w e t) :=
  ⟨rfl, rfl, rfl, by rw [Lib.bytesWorld_size]; omega, fun k hk => Lib.bytesWorld_at_old w e t k hk⟩
/-- bytes.ToLower of a word's own bytes. -/
theorem low_any (x : ByteArray) (w : World) (h0 : 0 < x.size) (hx : x.size ≤ 10000) (hw : ∀ c ∈ x.data.toList, isWd c = true) (cap : Nat) : Calls Tryd.prog 27 #[.slice (some ⟨w.heap.size, 0, none⟩) x.size cap] (Lib.bytesWorld w 5 x) fun e w' => ∃ v', e = .returned v' ∧ Lib.FreshBytes (Lib.bytesWorld w 5 x).heap.size w' v' (x.data.toList.map lowc) ∧ Below (Lib.bytesWorld w 5 x).heap.size (Lib.bytesWorld w 5 x) w' := by
  have := Tryd.bytes_ToLower_at ⟨w.heap.size, 0, none⟩ x.size cap (x.data.toList.map fun c => (c.toNat : Int)) (Lib.bytesWorld w 5 x) (by simp) (fun y hy => by
    obtain ⟨c, hc, rfl⟩ := List.mem_map.1 hy
    have := wd_small (hw c hc)
    omega) (fun i hi => by
    rw [Addr.add_mid, Nat.zero_add, Lib.bytesWorld_cell w _ x i hi]
    have hi' : i < x.data.toList.length := by simpa using hi
    simp [List.getD, List.getElem?_eq_getElem hi', List.getElem?_map]) h0 (by omega)
  rw [bytesOf_nat] at this
  exact this
set_option maxHeartbeats 1000000 in
set_option maxRecDepth 100000 in
theorem word_any {w : World} {b : Nat} {s : ByteArray} {p : Nat} (h : Sc w b s p) (hs : s.size ≤ 10000) (hp : p < s.size) (hl : isLt s[p] = true) : Calls Tryd.prog 19 #[.pointer (some ⟨b, 0, none⟩)] w fun e w' => StTo w b s p (wdS (rest s p)) e w' := by
  have ht := take_wd h hs
  have hpos : 1 ≤ ((rest s p).takeWhile isWd).length := by rw [rest_at s hp]; exact wd_pos hl
  have hlist := ext_tw s p isWd
  have hmem : ∀ c ∈ (rest s p).takeWhile isWd, isWd c = true := fun c hc => tw_mem _ c hc
  have hle := tw_le s isWd h.le
  obtain ⟨o, ho⟩ : ∃ o, o = wdS (rest s p) := ⟨_, rfl⟩
  rw [← ho]
  unfold wdS at ho
  have HOO := Go.Proofs.YtifnmclidabkfaaDoor.Hid.mk' ho
  clear ho
  have hT : ∀ e w', TkP w b s p isWd e w' → ∃ (x : ByteArray) (n : Nat), x.data.toList = (rest s p).takeWhile isWd ∧ x.size = n ∧ n = ((rest s p).takeWhile isWd).length ∧ e = .returned (.string x) ∧ Sc w' b s (p + n) ∧ Fr w w' (fun i => i = b) := fun e w' ⟨h1, h2, h3⟩ => ⟨_, _, hlist, by rw [size_of_list, hlist], rfl, h1, h2, h3⟩
  generalize (rest s p).takeWhile isWd = L at *
  clear hlist h hl hp
  go_enter Tryd.func19, Tryd.ntmps19
  go_wp2_with fail
  refine ht.mono ?_
  intro e w1 hTk
  obtain ⟨x, n, hx, hxn, hn, rfl, hS, hF⟩ := hT e w1 hTk
  clear ht hT hTk
  have HS := Go.Proofs.YtifnmclidabkfaaDoor.Hid.mk' hS
  have HF := Go.Proofs.YtifnmclidabkfaaDoor.Hid.mk' hF
  have HX := Go.Proofs.YtifnmclidabkfaaDoor.Hid.mk' hx
  have HN := Go.Proofs.YtifnmclidabkfaaDoor.Hid.mk' hn
  have hn1 : n ≤ 10000 := by omega
  clear hS hF hx
  by_cases h32 : 32 < n
  · have h32' : (n : Int) > 32 := by omega
    have hgo : ∀ e', e' = .returned (.tuple #[.string ⟨#[]⟩, .string ⟨#[52, 50, 54, 48, 49]⟩]) → StTo w b s p o e' w1 := fun e' he' => .no 1 (by rw [HOO.out, if_pos (by omega)]) he' _ HS.out HF.out
    clear hn
    subst hxn
    go_wp2_with fail
    go_ret2
    exact hgo _ rfl
  · have h32' : ¬ (n : Int) > 32 := by omega
    have hlow := fun cap => low_any x w1 (by omega) (by omega) (by rw [HX.out]; exact hmem) cap
    have hcv := Lib.run_convert_string_bytes (P := Tryd.prog) w1 9 47 5 x Tryd.underlying9 Tryd.underlying47 Tryd.underlying5
    have HW := Go.Proofs.YtifnmclidabkfaaDoor.Hid.mk' (below_bytesW w1 5 x)
    have HO : Hid (∀ w', Below w1.heap.size w1 w' → StTo w b s p o (.returned (.tuple #[.string ⟨(L.map lowc).toArray⟩, .string ⟨#[48, 48, 48, 48, 48]⟩])) w') := fun w' hb => by
      have e0 := HOO.out
      rw [if_neg (by omega)] at e0
      refine .tk _ _ _ _ e0 rfl ?_ (HF.out.trans (Fr.of_below (F := fun _ => False) hb) (fun i hi => hi.elim))
      rw [← HN.out]
      exact HS.out.keepB hb
    rw [HX.out] at hlow
    clear hn hmem hle hpos HX HN HS HF HOO
    subst hxn
    generalize grownCap w1 x.size 0 5 = cap at *
    generalize Lib.bytesWorld w1 5 x = w2 at *
    go_wp2_with fail
    refine (hlow cap).mono ?_
    rintro e w3 ⟨v', rfl, hfb, hb3⟩
    have hcb := fresh_back hfb
    have HW3 := Go.Proofs.YtifnmclidabkfaaDoor.Hid.mk' (HW.out.trans (hb3.mono HW.out.size))
    clear hlow hcv hfb hb3 HW
    go_wp2_with fail
    go_ret2
    exact HO.out _ HW3.out
end Go.Proofs.YtifnmclidabkfaaDoor
