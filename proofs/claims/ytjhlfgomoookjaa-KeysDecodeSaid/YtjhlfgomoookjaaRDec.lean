/-
  THE WALK OF THE document's Decode.
-/
import Derived.Test.YtjhlfgomoookjaaFirst
namespace Go.Proofs.Ytjhlfgomoookjaa
open Go.RowKit Go.Sort
attribute [local go_sem high] run_eqv run_neqv run_eqs

theorem ext_end (s : ByteArray) (q : Nat) (h : q ≤ s.size) : sb (s.extract q s.size) = (sb s).drop q ∧ (s.extract q s.size).size = s.size - q := by
  obtain ⟨a, b⟩ := extract_sb s q (s.size - q) (by omega)
  rw [show q + (s.size - q) = s.size by omega] at a b
  refine ⟨?_, b⟩
  rw [a, List.take_of_length_le]
  rw [List.length_drop, sb_len]
  omega
theorem OwnV.up {w wr w1 : World} {v : Value} {l : List V} (h : OwnV w wr v l) (hb : Below wr.heap.size wr w1) : OwnV w w1 v l := by
  have hs := h.2.size
  refine ⟨?_, below_trans h.2 hb⟩
  obtain ⟨⟨h1, h2⟩, h3, h4⟩ := h.1
  refine ⟨⟨h1, ?_⟩, h3, h4⟩
  rcases h2 with h2 | ⟨g, cap, cur, hv, hg, hh, r⟩
  · exact Or.inl h2
  · exact Or.inr ⟨g, cap, cur, hv, hg, (hb.block g (Blk.lt hh)).trans hh, r⟩
set_option maxRecDepth 100000 in
set_option maxHeartbeats 4000000 in
theorem rdecode_any (s : ByteArray) (hs : s.size ≤ 9223372036854775807) (w : World) : Calls Try.prog 15 #[.string s] w (Dec w s) := by
  by_cases h140 : s.size ≤ 140
  · have hd : decO s = (match unK (sb s) with | some r => if r.length ≤ 16 then some r else none | none => none) := if_pos h140
    have HD := Lib.hid hd
    clear hd
    go_enter Try.func15, Try.ntmps15
    go_wp2
    go_loopw [4, 5] (fun v0 i wr => ∃ (q : Nat) (rows : List V) (u : Value), u = v0 ∧ q ≤ s.size ∧ i = .int .i64 (q : Int) ∧ OwnV w wr u rows ∧ rows.length ≤ q ∧ unK (sb s) = (unK ((sb s).drop q)).map fun z => rows ++ z) (fun _ i _ => s.size - (intOf i).toNat)
    case atStart => exact ⟨0, [], _, rfl, by omega, rfl, OwnV.nil_at (Below.refl _ _), by simp, by simp⟩
    case round =>
      obtain ⟨q, rows, u, rfl, hqs, rfl, ho, hrq, hun⟩ := hrel
      have HO := Lib.hid ho
      have HU := Lib.hid hun
      clear ho hun
      by_cases h1 : q < s.size
      · obtain ⟨x1, x2⟩ := ext_end s q hqs
        have HF := Lib.hid (fun W => first_any (s.extract q s.size) (by omega) (by omega) W)
        unfold FirstOut at HF
        rw [x1, x2] at HF
        clear x1 x2
        have hne : (sb s).drop q ≠ [] := by
          intro e
          have := congrArg List.length e
          rw [List.length_drop, sb_len] at this
          simp at this
          omega
        go_wp2_with fail
        refine (HF.out _).mono ?_
        rintro e w1 ⟨hb1, hcase⟩
        clear HF
        have HO1 := Lib.hid (OwnV.up HO.out hb1)
        rcases hcase with ⟨v, k, hu1, hk0, hks, hvs, rfl⟩ | ⟨hu1, rfl⟩
        · have hone := one_un1 _ _ _ (fun y hy => sb_lt s y (List.mem_of_mem_drop hy)) hu1
          have hk1 : ((k : Int) == 0) = false := by simp; omega
          have HM := Lib.hid (fun W => rmay_any v.k v.n v.s (by omega) W)
          have hu2 : un2 ((sb s).drop q) = if v.may then some (v, (sb s).drop (q + k)) else none := by
            unfold un2
            rw [hu1, List.drop_drop]
          have hvok : VOk v := ⟨hone.2, by omega⟩
          have HVO := Lib.hid hvok
          clear hone hvok hb1 hu1
          by_cases hm : v.may = true
          · rw [if_pos hm] at hu2
            rw [show may v.k v.n v.s = true from hm] at HM
            have hrec : unK (sb s) = (unK ((sb s).drop (q + k))).map fun z => rows ++ v :: z := by
              rw [HU.out, unK_some hu2]
              simp [Option.map_map, Function.comp_def]
            have HREC := Lib.hid hrec
            obtain ⟨vk, vn, vs⟩ := v
            simp only at HM HREC HVO ⊢
            clear hrec hu2 hm hvs
            go_wp2_with fail
            refine (HM.out _).mono ?_
            rintro e w2 ⟨rfl, hb2⟩
            obtain ⟨b0, b1, b2⟩ := VB.cells (Blk.below (VB.new w1 vk vn vs) hb2 (by simp))
            have HO2 := Lib.hid (OwnV.up (HO1.out.alloc (.cells #[.int .i64 vk, .int .i64 vn, .string vs] 34)) hb2)
            clear hb2 HM
            go_wp2_with (at_builtin; go_must (refine wpList_appV rfl (.tmp 29) (.tmp 31) rfl u _ rows rfl (HO2.out.alloc _).1 _ 1 1 [⟨vk, vn, vs⟩] rfl (by exact RV.one _ _ _ _ _ (by simp) HVO.out) (by omega) ?_); intro v1 w4 hown hgrow; have HS := Lib.hid (OwnV.step (HO2.out.alloc _) hgrow hown); clear hown hgrow)
            go_roundw
            case rel =>
              refine ⟨q + k, rows ++ [⟨vk, vn, vs⟩], _, rfl, by omega, by go_num, HS.out, by simp; omega, ?_⟩
              rw [HREC.out]
              simp
            case measure => simp [intOf]; omega
          · rw [if_neg hm] at hu2
            have hm' : may v.k v.n v.s = false := by simpa [V.may] using hm
            rw [hm'] at HM
            have HN : Hid (decO s = none) := by
              show _ = _
              rw [HD.out, HU.out, unK_none hne hu2]
              rfl
            obtain ⟨vk, vn, vs⟩ := v
            simp only at HM ⊢
            clear hu2 hm hm' hvs
            go_wp2_with fail
            refine (HM.out _).mono ?_
            rintro e w2 ⟨rfl, hb2⟩
            have HB2 := Lib.hid (below_trans (HO1.out.alloc (.cells #[.int .i64 vk, .int .i64 vn, .string vs] 34)).2 hb2)
            clear hb2 HM
            go_wp2
            go_ret2
            exact Or.inr ⟨HN.out, rfl, HB2.out⟩
        · have HN : Hid (decO s = none) := by
            show _ = _
            rw [HD.out, HU.out, unK_none hne (by unfold un2; rw [hu1])]
            rfl
          clear hu1 hb1
          go_wp2
          go_ret2
          exact Or.inr ⟨HN.out, rfl, (HO1.out.alloc _).2⟩
      · obtain rfl : q = s.size := by omega
        have hun : unK (sb s) = some rows := by
          rw [HU.out, drop_end s s.size (by omega), unK_nil]
          simp
        obtain ⟨A, c, rfl, _, _, _, _⟩ := HO.out.1.reads (by omega)
        by_cases h16 : rows.length ≤ 16
        · have HR : Hid (decO s = some rows) := by
            show _ = _
            rw [HD.out, hun]
            simp [h16]
          have hd16 : decide (((rows.length : Nat) : Int) > 16) = false := decide_eq_false (by omega)
          clear hun
          go_wp2
          go_ret2
          exact Or.inl ⟨rows, _, HR.out, rfl, HO.out⟩
        · have HN : Hid (decO s = none) := by
            show _ = _
            rw [HD.out, hun]
            simp [h16]
          have hd16 : decide (((rows.length : Nat) : Int) > 16) = true := decide_eq_true (by omega)
          clear hun
          go_wp2
          go_ret2
          exact Or.inr ⟨HN.out, rfl, HO.out.2⟩
  · have hd : decO s = none := if_neg h140
    have HD := Lib.hid hd
    clear hd
    go_enter Try.func15, Try.ntmps15
    go_wp2
    go_ret2
    exact Or.inr ⟨HD.out, rfl, Below.refl _ _⟩
end Go.Proofs.Ytjhlfgomoookjaa
