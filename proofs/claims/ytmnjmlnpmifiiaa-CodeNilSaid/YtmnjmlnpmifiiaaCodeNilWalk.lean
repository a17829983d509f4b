/-
  THE WALK OF CodeNil: writers and readers that nobody made have nothing, and say so.
-/
import Derived.Test.YtmnjmlnpmifiiaaWalkQ
namespace Go.Proofs.Ytmnjmlnpmifiiaa.codeNil
open Go.RowKit

/-- what the loop carries on: a writer, a reader and the document's reader, that have nothing -/
def Inv (w : World) (gv gs gq : Nat) (wr : World) : Prop :=
  ∃ SV SS SQ : Nat → Prop, Wr wr SV (some gv) false [] ∧ Rd wr SS (some gs) false [] ∧ Qd wr SQ gq false [] ∧ (∀ b, SV b → ¬ SS b) ∧ (∀ b, SV b → ¬ SQ b) ∧ (∀ b, SS b → ¬ SQ b) ∧
    (∀ b, SV b → w.heap.size ≤ b) ∧ (∀ b, SS b → w.heap.size ≤ b) ∧ (∀ b, SQ b → w.heap.size ≤ b) ∧ Below w.heap.size w wr
theorem Inv.below {w wr w2 : World} {gv gs gq : Nat} (h : Inv w gv gs gq wr) (hb : Below wr.heap.size wr w2) : Inv w gv gs gq w2 := by
  obtain ⟨SV, SS, SQ, hv, hs, hq, d1, d2, d3, b1, b2, b3, hw⟩ := h
  have hf := Fr.of_below hb (fun b => wr.heap.size ≤ b)
  exact ⟨fun b => SV b ∧ b < wr.heap.size, fun b => SS b ∧ b < wr.heap.size, fun b => SQ b ∧ b < wr.heap.size, Wr.keep (Wr.up hv) hf (fun b hb => by omega), Rd.keep (Rd.up hs) hf (fun b hb => by omega), Qd.keep (Qd.up hq) hf (fun b hb => by omega),
    fun b h1 h2 => d1 b h1.1 h2.1, fun b h1 h2 => d2 b h1.1 h2.1, fun b h1 h2 => d3 b h1.1 h2.1, fun b h => b1 b h.1, fun b h => b2 b h.1, fun b h => b3 b h.1, hw.trans (hb.mono hw.size)⟩

/-- the writer is written to -/
theorem Inv.write {w wr : World} {gv gs gq : Nat} (h : Inv w gv gs gq wr) (it : It) (hi : it.Ok) (hs : it.s.size ≤ 1048576) :
    Calls Try.prog 12 #[ptr (some gv), it.agg] wr fun e w2 => (∃ v, e = .returned v) ∧ Inv w gv gs gq w2 := by
  obtain ⟨SV, SS, SQ, hv, hr, hq, d1, d2, d3, b1, b2, b3, hw⟩ := h
  refine (write_any wr SV (some gv) false [] it hi hs (by simp) hv).mono ?_
  rintro e w2 ⟨A, c, rfl, _, hwr, hf⟩
  have hsz := hw.size
  refine ⟨⟨_, rfl⟩, fun b => SV b ∨ wr.heap.size ≤ b, fun b => SS b ∧ b < wr.heap.size, fun b => SQ b ∧ b < wr.heap.size, hwr, Rd.keep (Rd.up hr) hf fun b hb hv => d1 b hv hb.1, Qd.keep (Qd.up hq) hf fun b hb hv => d2 b hv hb.1,
    fun b h1 h2 => h1.elim (fun h => d1 b h h2.1) fun h => by have := h2.2; omega, fun b h1 h2 => h1.elim (fun h => d2 b h h2.1) fun h => by have := h2.2; omega, fun b h1 h2 => d3 b h1.1 h2.1,
    fun b h => h.elim (b1 b) fun h => by omega, fun b h => b2 b h.1, fun b h => b3 b h.1, hw.trans (hf.below b1 hsz)⟩
/-- nobody's writer is written to -/
theorem Inv.write_nil {w wr : World} {gv gs gq : Nat} (h : Inv w gv gs gq wr) (it : It) (hi : it.Ok) (hs : it.s.size ≤ 1048576) :
    Calls Try.prog 12 #[ptr none, it.agg] wr fun e w2 => (∃ v, e = .returned v) ∧ Inv w gv gs gq w2 := by
  refine (write_any wr No none false [] it hi hs (by simp) ⟨rfl, rfl⟩).mono ?_
  rintro e w2 ⟨A, c, rfl, _, _, hf⟩
  exact ⟨⟨_, rfl⟩, h.below hf.no_below⟩
theorem Inv.read_nil {w wr : World} {gv gs gq : Nat} (h : Inv w gv gs gq wr) (it : It) (hi : it.Ok) :
    Calls Try.prog 16 #[ptr none, qp gq, it.agg] wr fun e w2 => e = .returned (.bool true) ∧ Inv w gv gs gq w2 := by
  obtain ⟨SV, SS, SQ, hv, hr, hq, d1, d2, d3, b1, b2, b3, hw⟩ := h
  refine (read_any wr No SQ none gq false [] it hi (fun _ hn => hn.elim) ⟨rfl, rfl⟩ hq).mono ?_
  rintro e w2 ⟨rfl, ok', l', _, hq2, hsame, hf⟩
  obtain ⟨rfl, rfl⟩ := hsame rfl
  have hf2 : Fr wr w2 SQ := hf.mono fun b _ hb => hb.elim (fun h => h.elim) id
  have hsz := hw.size
  exact ⟨rfl, SV, SS, SQ, Wr.keep hv hf2 d2, Rd.keep hr hf2 d3, hq2, d1, d2, d3, b1, b2, b3, hw.trans (hf2.below b3 hsz)⟩
theorem Inv.read {w wr : World} {gv gs gq : Nat} (h : Inv w gv gs gq wr) (it : It) (hi : it.Ok) :
    Calls Try.prog 16 #[ptr (some gs), qp gq, it.agg] wr fun e w2 => e = .returned (.bool true) ∧ Inv w gv gs gq w2 := by
  obtain ⟨SV, SS, SQ, hv, hr, hq, d1, d2, d3, b1, b2, b3, hw⟩ := h
  refine (read_any wr SS SQ (some gs) gq false [] it hi d3 hr hq).mono ?_
  rintro e w2 ⟨rfl, ok', l', hr2, hq2, hsame, hf⟩
  obtain ⟨rfl, rfl⟩ := hsame rfl
  have hsz := hw.size
  exact ⟨rfl, SV, SS, SQ, Wr.keep hv hf (fun b h1 h2 => h2.elim (d1 b h1) (d2 b h1)), hr2, hq2, d1, d2, d3, b1, b2, b3, hw.trans (hf.below (fun b h => h.elim (b2 b) (b3 b)) hsz)⟩

theorem Inv.bytes {w wr : World} {gv gs gq : Nat} (h : Inv w gv gs gq wr) : Calls Try.prog 13 #[ptr (some gv)] wr fun e w2 => (∃ A c, e = .returned (.slice A 0 c)) ∧ Inv w gv gs gq w2 := by
  have hi := h
  obtain ⟨SV, SS, SQ, hv, _⟩ := h
  refine (wbytes_any wr SV (some gv) false [] hv (by simp)).mono ?_
  rintro e w2 ⟨v, rfl, ho, hb⟩
  obtain ⟨A, c, rfl, _⟩ := ho.reads
  exact ⟨⟨A, c, rfl⟩, hi.below hb⟩
theorem Inv.bytes_nil {w wr : World} {gv gs gq : Nat} (h : Inv w gv gs gq wr) : Calls Try.prog 13 #[ptr none] wr fun e w2 => (∃ A c, e = .returned (.slice A 0 c)) ∧ Inv w gv gs gq w2 := by
  refine (wbytes_any wr No none false [] ⟨rfl, rfl⟩ (by simp)).mono ?_
  rintro e w2 ⟨v, rfl, ho, hb⟩
  obtain ⟨A, c, rfl, _⟩ := ho.reads
  exact ⟨⟨A, c, rfl⟩, h.below hb⟩
theorem Inv.len {w wr : World} {gv gs gq : Nat} (h : Inv w gv gs gq wr) : Calls Try.prog 14 #[ptr (some gv)] wr fun e w2 => e = .returned (.int .i64 0) ∧ wr = w2 := by
  obtain ⟨SV, SS, SQ, hv, _⟩ := h
  exact wlen_any wr SV (some gv) false [] hv
theorem Inv.left {w wr : World} {gv gs gq : Nat} (h : Inv w gv gs gq wr) : Calls Try.prog 17 #[ptr (some gs)] wr fun e w2 => e = .returned (.int .i64 0) ∧ wr = w2 := by
  obtain ⟨SV, SS, SQ, _, hr, _⟩ := h
  exact left_any wr SS (some gs) false [] hr
theorem Inv.err {w wr : World} {gv gs gq : Nat} (h : Inv w gv gs gq wr) : Calls Try.prog 18 #[ptr (some gs)] wr fun e w2 => e = .returned (.int .i64 5) ∧ wr = w2 := by
  obtain ⟨SV, SS, SQ, _, hr, _⟩ := h
  exact err_any wr SS (some gs) false [] hr
theorem Inv.end_ {w wr : World} {gv gs gq : Nat} (h : Inv w gv gs gq wr) : Calls Try.prog 20 #[ptr (some gs)] wr fun e w2 => e = .returned (.int .i64 5) ∧ Below w.heap.size w w2 := by
  obtain ⟨SV, SS, SQ, _, hr, _, _, _, _, _, b2, _, hw⟩ := h
  exact (end_any wr SS (some gs) false [] hr).mono fun _ _ hh => ⟨hh.1, hw.trans (hh.2.2.below b2 hw.size)⟩
theorem end_nil {w wr : World} {gv gs gq : Nat} (h : Inv w gv gs gq wr) : Calls Try.prog 20 #[ptr none] wr fun e w2 => e = .returned (.int .i64 5) ∧ Inv w gv gs gq w2 :=
  (end_any wr No none false [] ⟨rfl, rfl⟩).mono fun _ _ hh => ⟨hh.1, h.below hh.2.2.no_below⟩

theorem cells_at {w wr : World} {gv gs gq n : Nat} {b o k : Nat} {its : List It} {it : It} (h : Its w w.heap.size (some ⟨b, o, none⟩) n its) (hit : its[k]? = some it) (hi : Inv w gv gs gq wr) :
    wr.cell? ⟨b, o + k * 4, none⟩ = some (.int .i64 it.k) ∧ wr.cell? ⟨b, o + k * 4 + 1, none⟩ = some (.int .u64 (it.x : Int)) ∧ wr.cell? ⟨b, o + k * 4 + 2, none⟩ = some (.string it.s) ∧ wr.cell? ⟨b, o + k * 4 + 3, none⟩ = some (.int .i64 it.n) := by
  have hbw : Below w.heap.size w wr := by obtain ⟨_, _, _, _, _, _, _, _, _, _, _, _, hw⟩ := hi; exact hw
  have hl : k < its.length := by
    rcases Nat.lt_or_ge k its.length with h' | h'
    · exact h'
    · rw [List.getElem?_eq_none h'] at hit; cases hit
  have hkn : k < n := by have := h.1; omega
  obtain ⟨b', o', it', e, _, hit', _, hc⟩ := (h.below hbw).at_ hkn
  injection e with e
  injection e with e1 e2
  subst e1 e2
  rw [hit] at hit'
  injection hit' with hit'
  subst hit'
  exact hc
theorem start (w : World) : Inv w w.heap.size (w.heap.size + 1) (w.heap.size + 1 + 1) (((w.alloc (.cells #[.bool false, .slice none 0 0] 56)).alloc (.cells #[.bool false, .slice none 0 0] 58)).alloc (.cells #[.slice none 0 0, .bool true] 38)) := by
  have h1 := ((Blk.new w 56 #[.bool false, .slice none 0 0]).alloc (.cells #[.bool false, .slice none 0 0] 58)).alloc (.cells #[.slice none 0 0, .bool true] 38)
  have h2 := (Blk.new (w.alloc (.cells #[.bool false, .slice none 0 0] 56)) 58 #[.bool false, .slice none 0 0]).alloc (.cells #[.slice none 0 0, .bool true] 38)
  have h3 := Blk.new ((w.alloc (.cells #[.bool false, .slice none 0 0] 56)).alloc (.cells #[.bool false, .slice none 0 0] 58)) 38 #[.slice none 0 0, .bool true]
  simp only [World.size_alloc] at h2 h3
  refine ⟨fun b => b = w.heap.size, fun b => b = w.heap.size + 1, fun b => b = w.heap.size + 1 + 1, ⟨rfl, _, 0, h1, Ow.nil_ _ _⟩, ⟨rfl, none, 0, 0, h2, RB.nil_, by omega, by omega⟩, ⟨rfl, none, 0, 0, h3, RB.nil_, by omega, by omega⟩,
    fun b h => by omega, fun b h => by omega, fun b h => by omega, fun b h => by omega, fun b h => by omega, fun b h => by omega, ?_⟩
  exact (((Below.refl _ _).alloc (Nat.le_refl _) _).alloc (by simp) _).alloc (by simp; omega) _

set_option maxRecDepth 100000 in
set_option maxHeartbeats 4000000 in
theorem walked (A : Option Addr) (n c : Nat) (its : List It) (w : World) (h : Its w w.heap.size A n its) (hn : n ≤ 140737488351232) :
    Calls Try.prog 8 #[.slice A n c] w fun e w' => e = .returned (.bool true) ∧ Below w.heap.size w w' := by
  have HL := Lib.hid (long_any w _ A n c its h hn)
  have HI := Lib.hid h
  clear h
  cases hlong : longB its with
  | true =>
    rw [hlong] at HL
    clear hlong
    go_enter Try.func8, Try.ntmps8
    go_wp2_with (first | (go_at_call 9; refine HL.out.mono ?_; rintro e w' ⟨rfl, rfl⟩) | (go_at_call 10; refine (alive_any _).mono ?_; rintro e w1 ⟨rfl, hb⟩))
    go_ret
    exact ⟨rfl, hb⟩
  | false =>
    rw [hlong] at HL
    obtain ⟨hl1, hl2, _⟩ := longB_no hlong
    have HS := Lib.hid hl2
    have hlen := HI.out.1
    have hn3 : n ≤ 300 := by omega
    clear hlong hl2 hlen hl1
    go_enter Try.func8, Try.ntmps8
    go_wp2_with (go_at_call 9; refine HL.out.mono ?_; rintro e w' ⟨rfl, rfl⟩)
    go_loopw [8] (fun i wr => ∃ k : Nat, k ≤ n ∧ i = .int .i64 (k : Int) ∧ Inv w w.heap.size (w.heap.size + 1) (w.heap.size + 1 + 1) wr) (fun i _ => n - (intOf i).toNat)
    case atStart => exact ⟨0, by omega, rfl, start w⟩
    case round =>
      obtain ⟨k, hk, rfl, hinv⟩ := hrel
      have HINV := Lib.hid hinv
      by_cases hlt : k < n
      · have hbw : Below w.heap.size w wr := by obtain ⟨_, _, _, _, _, _, _, _, _, _, _, _, hw⟩ := hinv; exact hw
        obtain ⟨bb, oo, it, rfl, hbb, hit, hok, c0, c1, c2, c3⟩ := (HI.out.below hbw).at_ hlt
        have hs := HS.out it (List.mem_of_getElem? hit)
        have HOK := Lib.hid hok
        have HBW := Lib.hid hbw
        have HC := Lib.hid (hinv.write_nil it hok hs)
        have HIT := Lib.hid hit
        have hsz := hbw.size
        unfold It.agg ptr at HC
        simp only [Option.map] at HC
        clear hinv hbw hok hit
        go_wp2_with fail
        clear c0 c1 c2 c3
        refine HC.out.mono ?_
        rintro e w1 ⟨⟨v1, rfl⟩, hi1⟩
        obtain ⟨d0, d1, d2, d3⟩ := cells_at HI.out HIT.out hi1
        have HC1 := Lib.hid (hi1.write it HOK.out hs)
        unfold It.agg ptr at HC1
        simp only [Option.map] at HC1
        clear hi1
        go_wp2_with fail
        clear d0 d1 d2 d3
        refine HC1.out.mono ?_
        rintro e w2 ⟨⟨v2, rfl⟩, hi2⟩
        obtain ⟨d0, d1, d2, d3⟩ := cells_at HI.out HIT.out hi2
        have HC2 := Lib.hid (hi2.read_nil it HOK.out)
        unfold It.agg ptr qp at HC2
        simp only [Option.map] at HC2
        clear hi2
        go_wp2_with fail
        clear d0 d1 d2 d3
        refine HC2.out.mono ?_
        rintro e w3 ⟨rfl, hi3⟩
        obtain ⟨d0, d1, d2, d3⟩ := cells_at HI.out HIT.out hi3
        have HC3 := Lib.hid (hi3.read it HOK.out)
        unfold It.agg ptr qp at HC3
        simp only [Option.map] at HC3
        clear hi3
        go_wp2_with fail
        clear d0 d1 d2 d3
        refine HC3.out.mono ?_
        rintro e w4 ⟨rfl, hi4⟩
        have HI4 := Lib.hid hi4
        clear hi4
        go_wp2
        go_roundw
        case rel => exact ⟨k + 1, by omega, by go_num, HI4.out⟩
        case measure => simp [intOf]; omega
      · have HC := Lib.hid hinv.bytes_nil
        unfold ptr at HC
        simp only [Option.map] at HC
        clear hinv
        go_wp2_with fail
        refine HC.out.mono ?_
        rintro e w1 ⟨⟨A1, c1, rfl⟩, hi1⟩
        have HN1 := Lib.hid (wlen_any w1 No none false [] ⟨rfl, rfl⟩)
        have HC1 := Lib.hid hi1.bytes
        unfold ptr at HN1 HC1
        simp only [Option.map, List.length_nil] at HN1 HC1
        clear hi1
        go_wp2_with (go_at_call 14; refine HN1.out.mono ?_; rintro e w' ⟨rfl, rfl⟩)
        refine HC1.out.mono ?_
        rintro e w2 ⟨⟨A2, c2, rfl⟩, hi2⟩
        have HN2 := Lib.hid hi2.len
        have HL2 := Lib.hid (left_any w2 No none false [] ⟨rfl, rfl⟩)
        have HE2 := Lib.hid (err_any w2 No none false [] ⟨rfl, rfl⟩)
        have HD2 := Lib.hid (end_nil hi2)
        unfold ptr at HN2 HL2 HE2 HD2
        simp only [Option.map, List.length_nil, errOf, Bool.false_eq_true, if_false] at HN2 HL2 HE2 HD2
        clear hi2
        go_wp2_with (first | (go_at_call 14; refine HN2.out.mono ?_; rintro e w' ⟨rfl, rfl⟩) | (go_at_call 17; refine HL2.out.mono ?_; rintro e w' ⟨rfl, rfl⟩) | (go_at_call 18; refine HE2.out.mono ?_; rintro e w' ⟨rfl, rfl⟩))
        refine HD2.out.mono ?_
        rintro e w3 ⟨rfl, hi3⟩
        have HL3 := Lib.hid hi3.left
        have HE3 := Lib.hid hi3.err
        have HD3 := Lib.hid hi3.end_
        unfold ptr at HL3 HE3 HD3
        simp only [Option.map] at HL3 HE3 HD3
        clear hi3
        go_wp2_with (first | (go_at_call 17; refine HL3.out.mono ?_; rintro e w' ⟨rfl, rfl⟩) | (go_at_call 18; refine HE3.out.mono ?_; rintro e w' ⟨rfl, rfl⟩))
        refine HD3.out.mono ?_
        rintro e w4 ⟨rfl, hb4⟩
        have HB4 := Lib.hid hb4
        clear hb4
        go_wp2_with (go_at_call 10; refine (alive_any _).mono ?_; rintro e w5 ⟨rfl, hb5⟩; have HB5 := Lib.hid (HB4.out.trans (hb5.mono HB4.out.size)); clear hb5)
        go_ret
        exact ⟨rfl, HB5.out⟩
end Go.Proofs.Ytmnjmlnpmifiiaa.codeNil
