/- types.Cast at every right value and every type. -/
import Derived.Test.YtfmnlgepllgpnaaGreatDoorT2CastA
import Derived.Test.YtfmnlgepllgpnaaGreatDoorT2CastB
import Derived.Test.YtfmnlgepllgpnaaGreatDoorT2CastC
import Derived.Test.YtfmnlgepllgpnaaGreatDoorT2CastD
import Derived.Test.YtfmnlgepllgpnaaGreatDoorT2CastE
namespace Go.Proofs.YtfmnlgepllgpnaaGreatDoor
open Go.RowKit Go.Joins
set_option linter.unusedVariables false

theorem take_min (S : ByteArray) (m : Nat) : S.data.toList.take (min (S.size : Int) (m : Int)).toNat = S.data.toList.take (m : Int).toNat := by
  have hz : S.data.toList.length = S.size := by simp
  by_cases h : S.size ≤ m
  · rw [show (min (S.size : Int) (m : Int)).toNat = S.size by omega, show (m : Int).toNat = m by omega, List.take_of_length_le (by omega), List.take_of_length_le (by omega)]
  · rw [show (min (S.size : Int) (m : Int)).toNat = m by omega, show (m : Int).toNat = m by omega]
theorem tcast_any (K N : Int) (S : ByteArray) (B : Bool) (b l : Int) (a : Addr) (w : World) (hv : RightV K N S B) (hn : -9223372036854775808 ≤ N ∧ N ≤ 9223372036854775807) (hs : S.size ≤ 140737488355328) (hL : LibW a w) :
    Calls Tryz.prog 4 #[val K N S B, typ b l] w fun e w' => e = .returned ((castA K N S.data.toList B b l).ret) ∧ Below w.heap.size w w' := by
  cases hr : rightT b l
  · rw [show castA K N S.data.toList B b l = ansNo sMis by simp [castA, kind_right, hr]]
    exact tcast_wrong K N S B b l w hr
  · rcases kind_of_right hr with ⟨hk, _⟩ | ⟨hk, _, hl⟩ | ⟨hk, _⟩
    · rcases hv with ⟨rfl, rfl, rfl, rfl⟩ | ⟨rfl, rfl, rfl⟩ | ⟨rfl, rfl, rfl⟩ | ⟨rfl, rfl, rfl⟩
      · rw [show castA 0 0 (⟨#[]⟩ : ByteArray).data.toList false b l = assignA 0 0 (⟨#[]⟩ : ByteArray).data.toList false b l by simp [castA, assignA, hk]]
        exact tcast_01 0 ⟨#[]⟩ false b l a w hr hk
      · rw [show castA 1 N (⟨#[]⟩ : ByteArray).data.toList false b l = assignA 1 N (⟨#[]⟩ : ByteArray).data.toList false b l by simp [castA, assignA, hk]]
        exact tcast_11 N ⟨#[]⟩ false b l a w hr hk hn
      · rw [show castA 2 0 S.data.toList false b l = readA (Lib.trimB S.data.toList 32) b by simp [castA, hk]]
        exact tcast_21 0 S false b l a w hr hk hs hL
      · rw [show castA 3 0 (⟨#[]⟩ : ByteArray).data.toList B b l = assignA 3 0 (⟨#[]⟩ : ByteArray).data.toList B b l by simp [castA, assignA, hk]]
        exact tcast_31 0 ⟨#[]⟩ B b l a w hr hk
    · rcases hv with ⟨rfl, rfl, rfl, rfl⟩ | ⟨rfl, rfl, rfl⟩ | ⟨rfl, rfl, rfl⟩ | ⟨rfl, rfl, rfl⟩
      · rw [show castA 0 0 (⟨#[]⟩ : ByteArray).data.toList false b l = assignA 0 0 (⟨#[]⟩ : ByteArray).data.toList false b l by simp [castA, assignA, hk]]
        exact tcast_02 0 ⟨#[]⟩ false b l a w hr hk
      · rw [show castA 1 N (⟨#[]⟩ : ByteArray).data.toList false b l = toldA (Lib.itoa N) b l by simp [castA, hk]]
        exact tcast_12 N ⟨#[]⟩ false b l a w hr hk hn hl hL
      · obtain ⟨m, rfl⟩ := Int.eq_ofNat_of_zero_le (a := l) (by omega)
        rw [show castA 2 0 S.data.toList false b m = ansText (padL (S.data.toList.take (min (S.size : Int) (m : Int)).toNat) b m) by rw [take_min]; simp [castA, hk]]
        exact tcast_22 0 S false b m a w (by omega) hs hr hk
      · rw [show castA 3 0 (⟨#[]⟩ : ByteArray).data.toList B b l = toldA (wordB B) b l by simp [castA, hk]]
        cases B
        · exact tcast_32f 0 ⟨#[]⟩ false b l a w hr hk hl
        · exact tcast_32t 0 ⟨#[]⟩ true b l a w hr hk hl
    · rcases hv with ⟨rfl, rfl, rfl, rfl⟩ | ⟨rfl, rfl, rfl⟩ | ⟨rfl, rfl, rfl⟩ | ⟨rfl, rfl, rfl⟩
      · rw [show castA 0 0 (⟨#[]⟩ : ByteArray).data.toList false b l = assignA 0 0 (⟨#[]⟩ : ByteArray).data.toList false b l by simp [castA, assignA, hk]]
        exact tcast_03 0 ⟨#[]⟩ false b l a w hr hk
      · rw [show castA 1 N (⟨#[]⟩ : ByteArray).data.toList false b l = assignA 1 N (⟨#[]⟩ : ByteArray).data.toList false b l by simp [castA, assignA, hk]]
        exact tcast_13 N ⟨#[]⟩ false b l a w hr hk hn
      · rw [show castA 2 0 S.data.toList false b l = truthA (Lib.trimB S.data.toList 32) by simp [castA, hk]]
        exact tcast_23 0 S false b l a w hr hk hs
      · rw [show castA 3 0 (⟨#[]⟩ : ByteArray).data.toList B b l = assignA 3 0 (⟨#[]⟩ : ByteArray).data.toList B b l by simp [castA, assignA, hk]]
        exact tcast_33 0 ⟨#[]⟩ B b l a w hr hk
end Go.Proofs.YtfmnlgepllgpnaaGreatDoor
