/-
  STAGE 12: slices.Clone of locks, All, strings.Clone, copied.
-/
import Derived.Test.YtlblgfpafdfilaaDoorLJ
namespace Go.Proofs.YtlblgfpafdfilaaDoor
open Go.RowKit Go.Sort

/-- a row of locks in new memory -/
def NewL (w : World) (ls : List LK) (v : Value) (w' : World) : Prop := OwR w' 46 7 lf v ls ∧ Below w.heap.size w w' ∧ ∀ b, v.ownBlock = some b → w.heap.size ≤ b
theorem Row.app {w : World} {A : Option Addr} {ls : List LK} (h : Row w A ls) : ∀ i x j u, ls[i]? = some x → (lf x)[j]? = some u → ∃ ad, A = some ad ∧ w.cell? (ad.add (i * 7 + j)) = some u := by
  intro i x j u hi hj
  obtain ⟨b, e, c0, c1, c2, c3, c4, c5, c6⟩ := h i x hi
  refine ⟨_, e, ?_⟩
  rw [add_head]
  have hl := (List.getElem?_eq_some_iff.1 hj).1
  match j, hl, hj with
  | 0, _, hj => injection hj with hj; subst hj; exact c0
  | 1, _, hj => injection hj with hj; subst hj; exact c1
  | 2, _, hj => injection hj with hj; subst hj; exact c2
  | 3, _, hj => injection hj with hj; subst hj; exact c3
  | 4, _, hj => injection hj with hj; subst hj; exact c4
  | 5, _, hj => injection hj with hj; subst hj; exact c5
  | 6, _, hj => injection hj with hj; subst hj; exact c6
  | j + 7, hl, _ => simp [lf] at hl; omega
theorem below_of_grown {w w' : World} {B : Nat} {row : Option Nat} (hg : w.grownBy w' row) (hr : ∀ b, row = some b → B ≤ b) (hB : B ≤ w.heap.size) : Below B w w' :=
  ⟨hg.os, hg.tape, hg.output, hg.size, fun k hk => hg.block k (by omega) fun e => by have := hr k e.symm; omega⟩
set_option maxRecDepth 100000 in
set_option maxHeartbeats 1000000 in
theorem cloneL_any (A : Option Addr) (c : Nat) (ls : List LK) (w : World) (hr : Row w A ls) (h0 : A = none → ls = []) (hn : ls.length ≤ 16384) :
    Calls Tryd.prog 30 #[.slice A ls.length c] w fun e w' => ∃ v, e = .returned v ∧ NewL w ls v w' := by
  rcases A with _ | ad
  · have hl := h0 rfl
    subst hl
    simp only [List.length_nil]
    clear hr h0 hn
    have he := fun W : World => Lib.run_eql_slice_nil (P := Tryd.prog) W 27 46 none 0 c 0 0 Tryd.underlying27
    go_enter Tryd.func30, Tryd.ntmps30
    go_wp2_with fail
    go_ret
    exact ⟨_, rfl, OwR.nil_ _ _ _ _, Below.refl _ _, fun b hb => by simp [Value.ownBlock] at hb⟩
  · have HO := Lib.hid (show OwR (w.alloc (.cells #[] 46)) 46 7 lf (.slice (some ⟨w.heap.size, 0, none⟩) 0 0) [] from World.ownsRow_made w #[] 0 (Nat.zero_le _) (Nat.zero_le _) rfl)
    have HR := Lib.hid (Row.app (hr.up ((Below.refl w.heap.size w).alloc (Nat.le_refl _) (.cells #[] 46))))
    have HN := Lib.hid hn
    obtain ⟨n, hnn⟩ : ∃ n, n = ls.length := ⟨_, rfl⟩
    rw [← hnn]
    have HE := Lib.hid hnn
    have he := fun W : World => Lib.run_eql_slice_nil (P := Tryd.prog) W 27 46 (some ad) n c 0 0 Tryd.underlying27
    clear hr h0 hn hnn
    go_enter Tryd.func30, Tryd.ntmps30
    go_wp2_with (at_builtin; go_must (refine wpList_appR K46 lf_len lf_one rfl (.tmp 5) (.tmp 6) rfl _ [] rfl HO.out (some ad) n c ls rfl HE.out.symm HR.out (by simp; have := HN.out; have := HE.out; omega) (by simp; have := HN.out; have := HE.out; omega) ?_); intro v' w' hv hg hb)
    go_ret
    rw [List.nil_append] at hv
    replace hg : (w.alloc (.cells #[] 46)).grownBy w' (some w.heap.size) := hg
    replace hb : v'.ownBlock = some w.heap.size ∨ v'.ownBlock = some (w.alloc (.cells #[] 46)).heap.size := hb
    refine ⟨_, rfl, hv, ?_, fun b hb' => ?_⟩
    · exact ((Below.refl w.heap.size w).alloc (Nat.le_refl _) _).trans (below_of_grown hg (fun b hb => by injection hb with hb; omega) (by simp))
    · replace hb' : v'.ownBlock = some b := hb'
      rcases hb with hb | hb
      · rw [hb] at hb'; injection hb' with hb'; omega
      · rw [hb] at hb'; injection hb' with hb'; rw [← hb']; simp
set_option maxRecDepth 100000 in
theorem all_any (g : Nat) (A : Option Addr) (c : Nat) (ls : List LK) (w : World) (hT : TR w g A c ls) (h0 : A = none → ls = []) :
    Calls Tryd.prog 12 #[.pointer (some ⟨g, 0, none⟩)] w fun e w' => ∃ v, e = .returned v ∧ NewL w ls v w' := by
  have HC := Lib.hid (cloneL_any A c ls w hT.row h0 hT.few)
  have c0 := hT.blk.cell 0
  simp only [List.getElem?_toArray, List.getElem?_cons_zero] at c0
  obtain ⟨n, hnn⟩ : ∃ n, n = ls.length := ⟨_, rfl⟩
  rw [← hnn] at c0 HC
  clear hT h0 hnn
  go_enter Tryd.func12, Tryd.ntmps12
  go_wp2_with (first
    | (go_at_call 31; with_reducible refine (orNone_some _ _).mono ?_; rintro e w2 ⟨rfl, rfl⟩)
    | (go_at_call 30; with_reducible refine HC.out.mono ?_; rintro e w3 ⟨v, rfl, hv⟩; have HV := Lib.hid hv; clear hv))
  go_ret
  exact ⟨_, rfl, HV.out⟩
set_option maxRecDepth 100000 in
theorem all_nil (w : World) : Calls Tryd.prog 12 #[.pointer none] w fun e w' => ∃ v, e = .returned v ∧ NewL w [] v w' := by
  have HCN : ∀ W, Calls Tryd.prog 30 #[.slice none 0 0] W fun e w' => ∃ v, e = .returned v ∧ NewL W [] v w' := fun W => cloneL_any none 0 [] W (fun i l h => by simp at h) (fun _ => rfl) (by simp)
  replace HCN := Lib.hid HCN
  go_enter Tryd.func12, Tryd.ntmps12
  go_wp2_with (first
    | (go_at_call 31; with_reducible refine (orNone_nil _).mono ?_; rintro e w2 ⟨g, rfl, hT, hb, hk, hge⟩; have HT := Lib.hid hT; have HB := Lib.hid hb; have c0 := hk.cell 0; simp only [none29, List.getElem?_toArray, List.getElem?_cons_zero] at c0; clear hT hb hk hge)
    | (go_at_call 30; with_reducible refine (HCN.out _).mono ?_; rintro e w3 ⟨v, rfl, hv⟩; have HV := Lib.hid hv; clear hv))
  go_ret
  exact ⟨_, rfl, HV.out.1, below_trans HB.out HV.out.2.1, fun b hb => Nat.le_trans HB.out.size (HV.out.2.2 b hb)⟩
set_option maxRecDepth 100000 in
theorem cloneS_any (s : ByteArray) (w : World) (hs : s.size ≤ 281474976710656) : Calls Tryd.prog 66 #[.string s] w fun e w' => e = .returned (.string s) ∧ Below w.heap.size w w' := by
  have HC := Lib.hid (Tryd.stringslite_Clone s w hs)
  clear hs
  go_enter Tryd.func66, Tryd.ntmps66
  go_wp2_with (go_at_call 72; with_reducible refine HC.out.mono ?_; rintro e w2 ⟨rfl, hb⟩; have HB := Lib.hid hb; clear hb)
  go_ret
  exact ⟨rfl, HB.out⟩
end Go.Proofs.YtlblgfpafdfilaaDoor
