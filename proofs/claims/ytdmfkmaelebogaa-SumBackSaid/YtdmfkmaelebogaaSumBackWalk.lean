/-
  THE WALK OF SumBack: what is sealed is opened as it was.
-/
import Derived.Test.YtdmfkmaelebogaaWalkF
namespace Go.Proofs.Ytdmfkmaelebogaa.sumBack
open Go.RowKit

theorem walked (A : Option Addr) (n c : Nat) (l : List Nat) (w : World) (h : In w A n c l) :
    Calls Try.prog 6 #[.slice A n c] w fun e w' => e = .returned (.bool true) ∧ Below w.heap.size w w' := by
  have HI := Lib.hid h
  have hn : n ≤ 140737488351232 := h.2.2.1
  clear h
  have hlt := HI.out.1.lt
  have hg := Crc.seal_good hlt
  have hsl := Crc.seal_lt hlt
  have hln : (Crc.seal_ l).length = n + 4 := by rw [Crc.seal_length, HI.out.1.len]
  have htk : (Crc.seal_ l).take n = l := by
    have := Crc.seal_take l
    rwa [hln, show n + 4 - 4 = n by omega] at this
  have HG := Lib.hid hg
  have HLT := Lib.hid hsl
  have HLN := Lib.hid hln
  have HTK := Lib.hid htk
  clear hlt hg hsl hln htk
  go_enter Try.func6, Try.ntmps6
  go_wp2_with fail
  refine (seal_any A n c l _ HI.out).mono ?_
  rintro e w1 ⟨rfl, hb1, hblk⟩
  have HB1 := Lib.hid hblk
  have HR := Lib.hid (RB.of_blk hblk HLT.out HLN.out)
  clear hblk
  go_wp2_with fail
  refine (open_yes _ (n + 4) (n + 4) _ _ (by omega) (Nat.le_refl _) (by omega) HR.out HG.out).mono ?_
  rintro e w2 ⟨A2, c2, rfl, hc2, hb2, hr2⟩
  have hb2' : Below w.heap.size w w2 := hb1.trans (hb2.mono hb1.size)
  have HR2 : Hid (RB w2 A2 n l) := by
    have := hr2
    rw [show n + 4 - 4 = n by omega, HTK.out] at this
    exact this
  have HRX := Lib.hid (HR.out.below hb2)
  have HIX := Lib.hid (HI.out.1.below hb2')
  clear hr2 hb1 hb2
  have HX3 : Hid (RB w2 (some ⟨w.heap.size, 0, none⟩) n l) := by
    have := HRX.out.take (k := n) (by omega)
    rw [HTK.out] at this
    exact this
  go_wp2_with fail
  refine (same_any _ _ _ _ _ _ l _ HR2.out HIX.out).mono ?_
  rintro e w3 ⟨rfl, rfl⟩
  go_wp2_with fail
  refine (same_any _ _ _ _ _ _ l _ HX3.out HIX.out).mono ?_
  rintro e w3 ⟨rfl, rfl⟩
  go_wp2_with fail
  refine (alive_any _).mono ?_
  rintro e w4 ⟨rfl, hb4⟩
  go_wp2
  go_ret
  exact ⟨rfl, hb2'.trans (hb4.mono hb2'.size)⟩
end Go.Proofs.Ytdmfkmaelebogaa.sumBack
