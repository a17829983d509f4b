/-
  THE WALKS OF Image, Counts, full, Copy.
-/
import Derived.Test.YtjblcligkgjbjaaWalkI
namespace Go.Proofs.Ytjblcligkgjbjaa
open Go.RowKit Go.Sort Go.Maps

set_option maxRecDepth 100000 in
theorem RB.of_range {w : World} {S : Nat → Prop} {b o n : Nat} {l : List Nat} (h : w.rangeAt b o (u8s l)) (hb : b < w.heap.size) (hS : S b) (hl : ∀ x ∈ l, x < 256) (hn : l.length = n) : RB w S (some ⟨b, o, none⟩) n l := by
  refine ⟨hn, hl, fun _ => ⟨_, rfl, hb, hS, fun j hj => ?_⟩⟩
  rw [Addr.add_mid]
  exact h j _ (u8s_at l j (by omega))
set_option maxRecDepth 100000 in
theorem RB.of_any {w : World} {S : Nat → Prop} {g n : Nat} {t : TypeId} {l : List Nat} (h : Blk w g t (u8s l).toArray) (hS : S g) (hl : ∀ x ∈ l, x < 256) (hn : l.length = n) : RB w S (some ⟨g, 0, none⟩) n l :=
  RB.of_range (fun j v hv => by rw [h.cell]; simpa using hv) h.lt hS hl hn
set_option maxRecDepth 100000 in
theorem counts_any (w : World) (S : Nat → Prop) (g : Nat) (d : DS) (h : DAt w S g d) :
    Calls Try.prog 17 #[ptr (some g)] w fun e w' => e = .returned (.agg #[.int .i64 d.rd, .int .i64 d.wr, .int .i64 d.sy]) ∧ Fr w w' No := by
  obtain ⟨L, M, v, c, h⟩ := h
  have hc5 := h.b.cell 5
  have hc6 := h.b.cell 6
  have hc7 := h.b.cell 7
  have hlt := h.b.lt
  simp only [dcs, List.getElem?_toArray, List.getElem?_cons_zero, List.getElem?_cons_succ] at hc5 hc6 hc7
  simp only [ptr, Option.map]
  clear h
  go_enter Try.func17, Try.ntmps17
  go_wp2
  refine bodyPost_ret (v := .agg #[.int .i64 d.rd, .int .i64 d.wr, .int .i64 d.sy]) (by simp [results, Try.results17, go_sem]) rfl ⟨rfl, ?_⟩
  first | exact (Fr.refl w No).alloc _ | exact ((((Fr.refl w No).alloc _).setCell (Or.inr (by simp)) _).setCell (Or.inr (by simp)) _).setCell (Or.inr (by simp)) _
set_option maxRecDepth 100000 in
theorem counts_nob (w : World) (p : Option Nat) (h : Nob w p) :
    Calls Try.prog 17 #[ptr p] w fun e w' => e = .returned (.agg #[.int .i64 0, .int .i64 0, .int .i64 0]) ∧ Fr w w' No := by
  cases p with
  | none =>
    simp only [ptr, Option.map]
    go_enter Try.func17, Try.ntmps17
    go_wp2
    refine bodyPost_ret (v := .agg #[.int .i64 0, .int .i64 0, .int .i64 0]) (by simp [results, Try.results17, go_sem]) rfl ⟨rfl, ?_⟩
    first | exact (Fr.refl w No).alloc _ | exact ((((Fr.refl w No).alloc _).setCell (Or.inr (by simp)) _).setCell (Or.inr (by simp)) _).setCell (Or.inr (by simp)) _
  | some g =>
    have hc5 := Blk.cell h 5
    have hc6 := Blk.cell h 6
    have hc7 := Blk.cell h 7
    have hlt := Blk.lt h
    simp only [List.getElem?_toArray, List.getElem?_cons_zero, List.getElem?_cons_succ] at hc5 hc6 hc7
    simp only [ptr, Option.map]
    clear h
    go_enter Try.func17, Try.ntmps17
    go_wp2
    refine bodyPost_ret (v := .agg #[.int .i64 0, .int .i64 0, .int .i64 0]) (by simp [results, Try.results17, go_sem]) rfl ⟨rfl, ?_⟩
    first | exact (Fr.refl w No).alloc _ | exact ((((Fr.refl w No).alloc _).setCell (Or.inr (by simp)) _).setCell (Or.inr (by simp)) _).setCell (Or.inr (by simp)) _
/-- new memory with the bytes l -/
def New (w0 w : World) (v : Value) (l : List Nat) : Prop := Ow w (fun b => w0.heap.size ≤ b) v l.length l
set_option maxRecDepth 100000 in
theorem full_any (x : Nat) (hx : x < 256) (w : World) : Calls Try.prog 22 #[.int .u8 (x : Int)] w fun e w' => ∃ v, e = .returned v ∧ New w w' v (List.replicate 512 x) ∧ Fr w w' No := by
  go_enter Try.func22, Try.ntmps22
  go_wp2_with fail
  go_loopw [4, 3] (fun u v wr => ∃ i : Nat, u = .int .i64 (i : Int) ∧ i ≤ 512 ∧ Ow wr (fun b => w.heap.size ≤ b) v i (List.replicate i x) ∧ Fr w wr No) (fun u _ _ => 512 - (intOf u).toNat)
  case atStart => exact ⟨0, rfl, by omega, Ow.nil_ _ _, Fr.refl _ _⟩
  case round =>
    obtain ⟨i, rfl, hi, ho, hf⟩ := hrel
    have HO := Lib.hid ho
    have HF := Lib.hid hf
    have hsz := hf.size
    clear ho hf
    by_cases hlt : i < 512
    · have h1 : ((i : Int) < 512) := by omega
      have hWn : IntKind.i64.wrap ((i : Int) + 1) = ((i + 1 : Nat) : Int) := by rw [IntWalk.i64_in _ (by omega)]; omega
      go_wp2_with (at_builtin; go_must (refine wpList_app rfl (.tmp 9) (.tmp 11) rfl _ i (List.replicate i x) rfl (HO.out.alloc _) (fun _ => True) (some ⟨wr.heap.size, 0, none⟩) 1 1 [x] rfl (one_rb _ x hx _ trivial) (by omega) ?_); intro v1 w1 hown hgrow; have HS := Lib.hid (show Ow w1 (fun b => w.heap.size ≤ b) v1 (i + 1) (List.replicate (i + 1) x) by rw [List.replicate_succ']; exact hown.mono fun b _ hb => hb.elim id fun hb => by (have := World.size_alloc wr (.cells #[.int .u8 (x : Int)] 5)); omega); have HG := Lib.hid ((HF.out.alloc _).grown hgrow fun k hk => Or.inr (HO.out.2.2 k hk)); clear hown hgrow)
      go_roundw
      case rel => exact ⟨i + 1, by go_num, by omega, HS.out, HG.out⟩
      case measure => simp [intOf]; omega
    · obtain rfl : i = 512 := by omega
      go_wp2
      go_ret
      refine ⟨_, rfl, ?_, HF.out⟩
      unfold New
      rw [List.length_replicate]
      exact HO.out
set_option maxRecDepth 100000 in
theorem copy_any (w : World) (T : Nat → Prop) (A : Option Addr) (n c : Nat) (l : List Nat) (hr : RB w T A n l) (hn : n ≤ 140737488351232) :
    Calls Try.prog 20 #[.slice A n c] w fun e w' => ∃ v, e = .returned v ∧ New w w' v l ∧ Fr w w' No := by
  have HR := Lib.hid hr
  have hln := hr.len
  clear hr
  go_enter Try.func20, Try.ntmps20
  go_wp2_with (at_builtin; go_must (refine wpList_app rfl (.tmp 3) (.tmp 4) rfl _ 0 [] rfl (Ow.made w (fun b => w.heap.size ≤ b) (Nat.le_refl _)) T A n c l rfl (HR.out.alloc _) (by omega) ?_); intro v1 w1 hown hgrow; have HS := Lib.hid hown; have HG := Lib.hid hgrow; clear hown hgrow)
  go_ret
  refine ⟨_, rfl, ?_, ((Fr.refl w No).alloc _).grown HG.out fun k hk => Or.inr (by cases hk; exact Nat.le_refl _)⟩
  have h := HS.out
  rw [Nat.zero_add, List.nil_append, ← hln] at h
  exact h.mono fun b _ hb => hb.elim id fun hb => by have := World.size_alloc w (.cells #[] 5); omega
set_option maxRecDepth 100000 in
theorem mul512 (n : Nat) (h : n ≤ 8192) : IntKind.i64.wrap ((n : Int) * 512) = ((n * 512 : Nat) : Int) := by rw [IntWalk.i64_in _ (by omega)]; omega
set_option maxRecDepth 100000 in
theorem flat_len {k : List (List Nat)} (h : ∀ s ∈ k, Sec s) : k.flatten.length = k.length * 512 := by
  have := secs_len h
  rwa [secs, u8s_length] at this
set_option maxRecDepth 100000 in
theorem flat_lt {k : List (List Nat)} (h : ∀ s ∈ k, Sec s) : ∀ y ∈ k.flatten, y < 256 := by
  intro y hy
  obtain ⟨s, hs, hys⟩ := List.mem_flatten.1 hy
  exact (h s hs).2 y hys
set_option maxRecDepth 100000 in
theorem image_nob (w : World) (p : Option Nat) (h : Nob w p) : Calls Try.prog 18 #[ptr p] w fun e w' => ∃ v, e = .returned v ∧ New w w' v [] ∧ Fr w w' No := by
  cases p with
  | none =>
    simp only [ptr, Option.map]
    go_enter Try.func18, Try.ntmps18
    go_wp2
    go_ret
    exact ⟨_, rfl, Ow.nil_ _ _, Fr.refl _ _⟩
  | some g =>
    have hc := Blk.cell h 0
    simp only [List.getElem?_toArray, List.getElem?_cons_zero] at hc
    obtain ⟨i0, hi0, hz0, hz1, hz2⟩ := info_parts info5
    have hms := run_make (P := Try.prog) w 33 5 i0 _ Try.underlying33 hi0 hz0 .i64 .i64 0 0 (Int.le_refl _) (Int.le_refl _) (by rw [hz2]; omega) (by omega)
    rw [hz1] at hms
    simp only [Int.toNat_zero, Nat.zero_mul] at hms
    have hmm : madeCells (Value.cells (.int .u8 0)) 0 = #[] := by simp [madeCells]
    rw [hmm] at hms
    have hb := Lib.hid (show Blk w g 65 _ from h)
    have hc' : (w.alloc (.cells #[] 5)).cell? ⟨g, 0, none⟩ = some (.slice none 0 0) := by rw [World.cell?_alloc_lt _ _ _ (show g < _ from Blk.lt h)]; exact hc
    simp only [ptr, Option.map]
    clear h hmm
    go_enter Try.func18, Try.ntmps18
    go_wp2_with fail
    go_loopw [19, 3] (fun u v wr => u = .int .i64 0 ∧ v = .slice (some ⟨w.heap.size, 0, none⟩) 0 0 ∧ wr = w.alloc (.cells #[] 5)) (fun u _ _ => 0)
    case atStart => exact ⟨rfl, rfl, rfl⟩
    case round =>
      obtain ⟨rfl, rfl, rfl⟩ := hrel
      go_wp2
      go_ret
      exact ⟨_, rfl, Ow.made w _ (Nat.le_refl _), (Fr.refl _ _).alloc _⟩
set_option maxRecDepth 100000 in
theorem image_any (w : World) (S : Nat → Prop) (g : Nat) (d : DS) (h : DAt w S g d) :
    Calls Try.prog 18 #[ptr (some g)] w fun e w' => ∃ v, e = .returned v ∧ New w w' v d.image ∧ Fr w w' No := by
  obtain ⟨L, M, v0, c0, h⟩ := h
  have hfew := h.ok.few
  have hsec := h.ok.sec
  have hc := h.b.cell 0
  simp only [dcs, List.getElem?_toArray, List.getElem?_cons_zero] at hc
  obtain ⟨i0, hi0, hz0, hz1, hz2⟩ := info_parts info5
  obtain ⟨n, hn⟩ : ∃ n, n = d.kept.length := ⟨_, rfl⟩
  rw [← hn] at hc hfew
  have hmw := mul512 n hfew
  obtain ⟨c, hc5⟩ : ∃ c, c = n * 512 := ⟨_, rfl⟩
  rw [← hc5] at hmw
  obtain ⟨W, hms, ho0, hg0⟩ := run_make_own (P := Try.prog) w 0 33 5 i0 _ 1 Try.underlying33 hi0 hz0 hz1 .i64 .i64 c (by rw [hz2]; omega) (by simp only [maxLen]; omega) (Nat.zero_le _)
  have hF0 : Fr w W No := (Fr.refl w No).grown hg0 fun k hk => by cases hk
  have hO0 : Ow W (fun b => w.heap.size ≤ b) (.slice (some ⟨w.heap.size, 0, none⟩) 0 c) 0 [] := ⟨ho0, by simp, fun k hk => by simp [Value.ownBlock] at hk; omega⟩
  have hcW := (h.keep hF0 fun _ _ hn => hn).b.cell 0
  simp only [dcs, List.getElem?_toArray, List.getElem?_cons_zero] at hcW
  rw [← hn] at hcW
  have HB := Lib.hid h
  have HN := Lib.hid hn
  have HF0 := Lib.hid hF0
  have HO0 := Lib.hid hO0
  have HQ := Lib.hid hsec
  simp only [ptr, Option.map]
  clear h hn hF0 hO0 ho0 hg0 hsec hc5 hi0 hz0 hz1 hz2
  go_enter Try.func18, Try.ntmps18
  go_wp2_with fail
  go_loopw [19, 3] (fun u v wr => ∃ i : Nat, u = .int .i64 (i : Int) ∧ i ≤ n ∧ Ow wr (fun b => w.heap.size ≤ b) v (i * 512) (d.kept.take i).flatten ∧ Fr w wr No) (fun u _ _ => n - (intOf u).toNat)
  case atStart => exact ⟨0, rfl, by omega, by simpa using HO0.out, HF0.out⟩
  case round =>
    obtain ⟨i, rfl, hi, ho, hf⟩ := hrel
    have hDi := HB.out.keep hf fun _ _ hn => hn
    have hci := hDi.b.cell 0
    simp only [dcs, List.getElem?_toArray, List.getElem?_cons_zero] at hci
    rw [← HN.out] at hci
    have HO := Lib.hid ho
    have HF := Lib.hid hf
    have hsz := hf.size
    clear ho hf
    by_cases hlt : i < n
    · have h1 : ((i : Int) < (n : Int)) := by omega
      have hlk : i < d.kept.length := by rw [← HN.out]; exact hlt
      have hs := HQ.out _ (getD_mem (z := ([] : List Nat)) hlk)
      have hrb := RB.of_range (S := fun _ => True) (rangeAt_sec hDi.l HQ.out hlk) hDi.l.lt trivial hs.2 hs.1
      have hWn : IntKind.i64.wrap ((i : Int) + 1) = ((i + 1 : Nat) : Int) := by rw [IntWalk.i64_in _ (by omega)]; omega
      have htk : (d.kept.take i).flatten ++ d.kept.getD i [] = (d.kept.take (i + 1)).flatten := by
        rw [List.take_succ_eq_append_getElem hlk, List.flatten_append]
        simp [hlk]
      have HRB := Lib.hid hrb
      have HTK := Lib.hid htk
      clear hrb htk hs hDi hlk
      go_wp2_with (at_builtin; go_must (refine wpList_app rfl (.tmp 22) (.tmp 29) rfl _ (i * 512) (d.kept.take i).flatten rfl HO.out (fun _ => True) (some ⟨L, i * 512, none⟩) 512 512 (d.kept.getD i []) rfl HRB.out (by omega) ?_); intro v1 w1 hown hgrow; have HS := Lib.hid hown; have HG := Lib.hid (HF.out.grown hgrow fun k hk => Or.inr (HO.out.2.2 k hk)); clear hown hgrow)
      go_roundw
      case rel =>
        refine ⟨i + 1, by go_num, by omega, ?_, HG.out⟩
        have h := HS.out
        rw [HTK.out, show i * 512 + 512 = (i + 1) * 512 by omega] at h
        exact h.mono fun b _ hb => hb.elim id fun hb => Nat.le_trans hsz hb
      case measure => simp [intOf]; omega
    · obtain rfl : i = n := by omega
      go_wp2
      go_ret
      refine ⟨_, rfl, ?_, HF.out⟩
      have h := HO.out
      rw [HN.out, List.take_length] at h
      unfold New
      show Ow _ _ _ d.kept.flatten.length d.kept.flatten
      rw [flat_len HQ.out]
      exact h
end Go.Proofs.Ytjblcligkgjbjaa
