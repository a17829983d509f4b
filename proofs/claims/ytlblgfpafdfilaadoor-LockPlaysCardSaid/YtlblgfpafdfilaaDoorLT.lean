/-
STAGE 12: Waits, its walk.
-/
import Derived.Test.YtlblgfpafdfilaaDoorLS
namespace Go.Proofs.YtlblgfpafdfilaaDoor
open Go.RowKit Go.Sort

/-- the inner loop's pairs: what is written lies below z, or is new since w2 -/
structure WJ (w1 w2 wr : World) (z : Nat) (v : Value) (acc : List (Nat × Nat)) (m : Nat) : Prop where
  wi : WI w1 wr v acc m
  fr : Fr w2 wr fun b => b < z
  old : ∀ b, v.ownBlock = some b → b < z ∨ w2.heap.size ≤ b
theorem WJ.up {w1 w2 wr w3 : World} {z : Nat} {v : Value} {acc : List (Nat × Nat)} {m : Nat} (h : WJ w1 w2 wr z v acc m) (hb : RowKit.Below wr.heap.size wr w3) : WJ w1 w2 w3 z v acc m :=
  ⟨h.wi.up hb, h.fr.same (Fr.of_below hb _), h.old⟩
theorem WJ.le {w1 w2 wr : World} {z : Nat} {v : Value} {acc : List (Nat × Nat)} {m m' : Nat} (h : WJ w1 w2 wr z v acc m) (hm : m ≤ m') : WJ w1 w2 wr z v acc m' := ⟨⟨h.wi.own, h.wi.new, Nat.le_trans h.wi.len hm, h.wi.bel⟩, h.fr, h.old⟩
theorem WJ.more {w1 w2 wr w3 : World} {z : Nat} {v v' : Value} {acc : List (Nat × Nat)} {x : Nat × Nat} {m : Nat} {o : Obj} (h : WJ w1 w2 wr z v acc m) (ho : OwR w3 47 2 pf v' (acc ++ [x])) (hg : (wr.alloc o).grownBy w3 v.ownBlock) (hb : v'.ownBlock = v.ownBlock ∨ v'.ownBlock = some (wr.alloc o).heap.size) : WJ w1 w2 w3 z v' (acc ++ [x]) (m + 1) := by
  have hs := h.fr.size
  refine ⟨h.wi.more ho hg hb, ?_, fun b hb' => ?_⟩
  · exact (h.fr.alloc o).trans (T := fun b => v.ownBlock = some b) ((Fr.refl _ _).grown hg fun k hk => Or.inl hk) fun b hb => h.old b hb
  · rcases hb with hb | hb
    · exact h.old b (by rw [← hb]; exact hb')
    · rw [hb] at hb'
      injection hb' with hb'
      right
      rw [← hb']
      simp
      omega
theorem outM_of {ls : List LK} {pl : List Nat} {acc : List (Nat × Nat)} {p : Nat} {q : LK} (h : ls[p]? = some q) : outM ls pl acc p = if q.h = true then acc else (inL ls q p pl acc).1 := by
  unfold outM
  rw [getD_of h]
set_option maxRecDepth 100000 in
set_option maxHeartbeats 4000000 in
theorem waits_ofN (tv : Value) (w : World) (g : Nat) (A : Option Addr) (c : Nat) (ls : List LK) (hg : Gw w)
    (hor : Calls Tryd.prog 31 #[tv] w fun e w' => e = .returned (.pointer (some ⟨g, 0, none⟩)) ∧ TR w' g A c ls ∧ Below w.heap.size w w') :
    Calls Tryd.prog 13 #[tv] w fun e w' => ∃ v pl, e = .returned v ∧ Rises ls pl ∧ OwR w' 47 2 pf v (waitsM ls pl) ∧ Below w.heap.size w w' ∧ ∀ b, v.ownBlock = some b → w.heap.size ≤ b := by
  have HOR := Lib.hid hor
  have HG := Lib.hid hg
  clear hor hg
  go_enter Tryd.func13, Tryd.ntmps13
  go_wp2_with (first
    | (go_at_call 31; with_reducible refine HOR.out.mono ?_; rintro e w0 ⟨rfl, hT0, hb0⟩; have HT0 := Lib.hid hT0; have HB0 := Lib.hid hb0; clear hT0 hb0)
    | (go_at_call 32; with_reducible refine (byTxn_any g A c ls _ HT0.out).mono ?_; rintro e w1 ⟨pl, rfl, hpl, ho, hb1⟩; have HPL := Lib.hid hpl; have HO := Lib.hid ho; have HT := Lib.hid (HT0.out.up hb1); have HB1 := Lib.hid (below_trans HB0.out hb1); have HG1 := Lib.hid (HG.out.below HB1.out); clear hpl ho hb1))
  obtain ⟨B, hB⟩ : ∃ B, B = w0.heap.size + 1 := ⟨_, rfl⟩
  rw [← hB] at HO ⊢
  obtain ⟨n, hn⟩ : ∃ n, n = ls.length := ⟨_, rfl⟩
  rw [← hn] at HO ⊢
  have HN := Lib.hid hn
  have HF := Lib.hid (show n ≤ 16384 by rw [hn]; exact HT.out.few)
  have HLN := Lib.hid (show pl.length = n by rw [hn]; exact HPL.out.len)
  clear hB hn
  go_loopw [4, 19] (fun v i wr => ∃ k : Nat, k ≤ n ∧ i = .int .i64 (k : Int) ∧ WI w1 wr v ((pl.take k).foldl (outM ls pl) []) (k * n)) (fun _ i _ => n - (intOf i).toNat)
  case atStart => exact ⟨0, by omega, rfl, OwR.nil_ _ _ _ _, fun b hb => by simp [Value.ownBlock] at hb, by simp, Below.refl _ _⟩
  case round =>
    obtain ⟨k, hk, rfl, hw⟩ := hrel
    have HW := Lib.hid hw
    have hb := hw.bel
    by_cases hlt : k < n
    · have hp : pl[k]? = some (pl[k]'(by have := HLN.out; omega)) := List.getElem?_eq_getElem _
      generalize pl[k]'(by have := HLN.out; omega) = p at hp
      have hpn : p < ls.length := HPL.out.lt hp
      have hl : ls[p]? = some ls[p] := List.getElem?_eq_getElem hpn
      generalize ls[p] = q at hl
      obtain ⟨b, rfl, hcs⟩ := HT.out.row p q hl
      have hTw := HT.out.up hb
      obtain ⟨z0, z1, z2, z3, z4, z5, z6⟩ := hcs.up hb
      have c0 := hTw.blk.cell 0
      simp only [List.getElem?_toArray, List.getElem?_cons_zero] at c0
      rw [← HN.out] at c0
      have p0 := ints_at (HO.out.up hb) hp
      have hin : ((k : Int) < (n : Int)) := by omega
      have hin2 : ((p : Int) < (n : Int)) := by have := HN.out; omega
      have e1 : IntKind.i64.wrap ((k : Int) + 1) = ((k + 1 : Nat) : Int) := by rw [IntWalk.i64_in _ (by have := HF.out; omega)]; omega
      have HL := Lib.hid hl
      have HP := Lib.hid hp
      have HTA := Lib.hid ((foldl_take (outM ls pl) [] hp).trans (outM_of hl))
      have HQO := Lib.hid (HT.out.ok q (List.mem_of_getElem? hl))
      generalize (pl.take k).foldl (outM ls pl) [] = acc at HW HTA
      have HWF := Lib.hid (waitsFor_b g (some ⟨b, 0, none⟩) c ls wr hTw q p hl)
      clear hb hp hl hcs hTw hw z1 z2 z3 z4 z5
      cases hh : q.h with
      | true =>
        rw [hh] at z6
        rw [hh, if_pos rfl] at HTA
        clear hh
        go_wp2_with fail
        go_roundw
        case rel => exact ⟨k + 1, by omega, by go_num, by rw [HTA.out]; exact ⟨HW.out.own, HW.out.new, Nat.le_trans HW.out.len (Nat.mul_le_mul_right n (Nat.le_succ k)), HW.out.bel⟩⟩
        case measure => simp [intOf]; omega
      | false =>
        rw [hh] at z6
        rw [hh, if_neg (by decide)] at HTA
        clear hh
        go_wp2_with (go_at_call 33; with_reducible refine HWF.out.mono ?_; rintro e w2 ⟨fv, rfl, hwf, hb2⟩; have HWB := Lib.hid hwf; have HB2 := Lib.hid hb2; clear hwf hb2)
        have hJ0 : WJ w1 w2 w2 wr.heap.size u4 acc (k * n) := ⟨HW.out.up HB2.out, Fr.refl _ _, fun b' hb' => Or.inl (HW.out.own.lt hb')⟩
        have HJ0 := Lib.hid hJ0
        obtain ⟨wo, hwo⟩ : ∃ wo, wo = wr := ⟨_, rfl⟩
        subst hwo
        have HHK := Lib.hid hk
        have HBW := Lib.hid HW.out.bel.size
        have hlt1 := hlt
        clear hJ0 z0 z6 p0 c0 hk
        go_loopw [4, 8, 44] (fun v l i wi => ∃ j last : Nat, j ≤ n ∧ i = .int .i64 (j : Int) ∧ l = .int .u32 (last : Int) ∧ last < 4294967296 ∧ (inL ls q p (pl.take j) acc).2 = last ∧ WJ w1 w2 wi wo.heap.size v (inL ls q p (pl.take j) acc).1 (k * n + j)) (fun _ _ i _ => n - (intOf i).toNat)
        case atStart => exact ⟨0, 0, by omega, rfl, rfl, by omega, rfl, HJ0.out⟩
        case round =>
          obtain ⟨j, last, hj, rfl, rfl, hlast, hla, hJ⟩ := hrel
          have HJ := Lib.hid hJ
          have HLA := Lib.hid hla
          have hb := hJ.wi.bel
          clear hla
          by_cases hlt2 : j < n
          · have ho : pl[j]? = some (pl[j]'(by have := HLN.out; omega)) := List.getElem?_eq_getElem _
            generalize pl[j]'(by have := HLN.out; omega) = o at ho
            have hon : o < ls.length := HPL.out.lt ho
            have hl : ls[o]? = some ls[o] := List.getElem?_eq_getElem hon
            generalize ls[o] = l at hl
            obtain ⟨b', e', hcs⟩ := HT.out.row o l hl
            injection e' with e'
            injection e' with e'
            subst e'
            have hTw := HT.out.up hb
            have x0 := (hcs.up hb).1
            have c0 := hTw.blk.cell 0
            simp only [List.getElem?_toArray, List.getElem?_cons_zero] at c0
            rw [← HN.out] at c0
            have p0 := ints_at (HO.out.up hb) ho
            have hin : ((j : Int) < (n : Int)) := by omega
            have hin2 : ((o : Int) < (n : Int)) := by have := HN.out; omega
            have e1 : IntKind.i64.wrap ((j : Int) + 1) = ((j + 1 : Nat) : Int) := by rw [IntWalk.i64_in _ (by have := HF.out; omega)]; omega
            have HTA2 := Lib.hid (inL_take ls q p acc ho)
            have HLT := Lib.hid (HT.out.ok l (List.mem_of_getElem? hl)).t
            obtain ⟨caps, rfl, hcl⟩ := (HWB.out.keep hJ.fr).wf.call (A := some ⟨b, 0, none⟩) (c := c) (ls := ls) hTw (HG1.out.below hb) HQO.out (Below.refl _ _) o l hl
            have HCL := Lib.hid hcl
            have eg : ∀ args w, (callFunc 59 args).run Tryd.prog w = .ok (.enter 59 args) w := enters_of Tryd.func59 (by kernel_rfl) rfl
            generalize inL ls q p (pl.take j) acc = st at HJ HLA HTA2
            obtain ⟨sa, sl⟩ := st
            simp only at HJ HLA HTA2
            unfold inM at HTA2
            rw [getD_of hl] at HTA2
            simp only at HTA2
            generalize waitM (ls.any (passP q)) q p l o = r at HCL HTA2
            have hsl := HLA.out
            subst hsl
            obtain ⟨u, hu⟩ : ∃ u, (l.t != sl) = u := ⟨_, rfl⟩
            have hu2 : ((l.t : Int) != (sl : Int)) = u := by rw [← hu]; exact congrArg (!·) (nbeq l.t sl)
            rw [hu] at HTA2
            clear hb ho hl hcs hTw hcl hJ hu
            cases u with
            | false =>
              rw [Bool.false_and, if_neg (by decide)] at HTA2
              go_wp2_with fail
              go_roundw
              case rel => exact ⟨j + 1, sl, by omega, by go_num, rfl, hlast, by rw [HTA2.out], by rw [HTA2.out]; exact HJ.out.le (by omega)⟩
              case measure => simp [intOf]; omega
            | true =>
              cases r with
              | false =>
                rw [Bool.true_and, if_neg (by decide)] at HTA2
                go_wp2_with fail
                with_reducible refine HCL.out.mono ?_
                rintro e w3 ⟨rfl, hb3⟩
                have HB3 := Lib.hid hb3
                clear hb3
                go_wp2_with fail
                go_roundw
                case rel => exact ⟨j + 1, sl, by omega, by go_num, rfl, hlast, by rw [HTA2.out], by rw [HTA2.out]; exact (HJ.out.up HB3.out).le (by omega)⟩
                case measure => simp [intOf]; omega
              | true =>
                rw [Bool.true_and, if_pos rfl] at HTA2
                go_wp2_with fail
                with_reducible refine HCL.out.mono ?_
                rintro e w3 ⟨rfl, hb3⟩
                have HJ3 := Lib.hid (HJ.out.up hb3)
                have HO3 := Lib.hid (show OwR (w3.alloc (.cells #[.int .u32 (q.t : Int), .int .u32 (l.t : Int)] 47)) 47 2 pf u4 sa from HJ3.out.wi.own.up ((Below.refl _ _).alloc (Nat.le_refl _) _))
                have HR3 := Lib.hid (one_app (f := pf) (k := 2) w3 47 (q.t, l.t))
                clear hb3
                have HLE := Lib.hid (show sa.length ≤ 16384 * 16384 + 16384 by
                  have h1 := HJ3.out.wi.len
                  have h2 := HF.out
                  have h3 : k * n ≤ 16384 * 16384 := Nat.mul_le_mul (by have := HHK.out; omega) h2
                  omega)
                go_wp2_with (at_builtin; go_must (refine wpList_appR K47 pf_len pf_one rfl (.tmp 64) (.tmp 68) rfl u4 sa rfl HO3.out (some ⟨w3.heap.size, 0, none⟩) 1 1 [(q.t, l.t)] rfl rfl HR3.out (by have := HLE.out; omega) (by have := HLE.out; omega) ?_); intro v' w4 hv4 hg4 hb4; have HJ4 := Lib.hid (HJ3.out.more hv4 hg4 hb4); clear hv4 hg4 hb4)
                go_roundw
                case rel => exact ⟨j + 1, l.t, by omega, by go_num, rfl, HLT.out, by rw [HTA2.out], by rw [HTA2.out]; exact HJ4.out⟩
                case measure => simp [intOf]; omega
          · obtain rfl : j = n := by omega
            have hin : ¬ ((j : Int) < (j : Int)) := by omega
            have HE := Lib.hid (show inL ls q p (pl.take j) acc = inL ls q p pl acc by rw [← HLN.out, List.take_length])
            clear hb hJ
            go_wp2_with fail
            have hJe := HJ.out
            rw [HE.out] at hJe
            go_roundw
            case rel => exact ⟨k + 1, by omega, by go_num, by rw [HTA.out]; exact ⟨hJe.wi.own, hJe.wi.new, by rw [Nat.add_mul, Nat.one_mul]; exact hJe.wi.len, hJe.wi.bel⟩⟩
            case measure => simp [intOf]; omega
    · obtain rfl : k = n := by omega
      have hin : ¬ ((k : Int) < (k : Int)) := by omega
      have HE := Lib.hid (show (pl.take k).foldl (outM ls pl) [] = waitsM ls pl by rw [← HLN.out, List.take_length]; rfl)
      clear hb hw
      go_wp2_with fail
      go_ret
      exact ⟨_, rfl, pl, HPL.out, by rw [← HE.out]; exact HW.out.own, HB1.out.trans (HW.out.bel.mono HB1.out.size), fun b hb => Nat.le_trans HB1.out.size (HW.out.new b hb)⟩
theorem waits_of (tv : Value) (w : World) (g : Nat) (A : Option Addr) (c : Nat) (ls : List LK) (hg : Gw w)
    (hor : Calls Tryd.prog 31 #[tv] w fun e w' => e = .returned (.pointer (some ⟨g, 0, none⟩)) ∧ TR w' g A c ls ∧ Below w.heap.size w w') :
    Calls Tryd.prog 13 #[tv] w fun e w' => ∃ v pl, e = .returned v ∧ Rises ls pl ∧ OwR w' 47 2 pf v (waitsM ls pl) ∧ Below w.heap.size w w' :=
  (waits_ofN tv w g A c ls hg hor).mono fun _ _ ⟨v, pl, h1, h2, h3, h4, _⟩ => ⟨v, pl, h1, h2, h3, h4⟩
end Go.Proofs.YtlblgfpafdfilaaDoor
