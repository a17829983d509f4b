/-
  THE WALK OF Decode; awake.
-/
import Derived.Test.YtjhlfgomoookjaaWalkG
namespace Go.Proofs.Ytjhlfgomoookjaa
open Go.RowKit Go.Sort
attribute [local go_sem high] run_eqv run_neqv run_eqs

/-- which row a text is the key of -/
def decO (s : ByteArray) : Option (List V) :=
  if s.size ≤ 140 then (match unK (sb s) with | some r => if r.length ≤ 16 then some r else none | none => none) else none
/-- what Decode answers -/
def Dec (w : World) (s : ByteArray) (e : Ending) (w' : World) : Prop :=
  (∃ r v, decO s = some r ∧ e = .returned (.tuple #[v, .int .i64 0]) ∧ OwnV w w' v r) ∨ (decO s = none ∧ e = .returned (.tuple #[.slice none 0 0, .int .i64 5]) ∧ Below w.heap.size w w')

theorem OwV.keep {w w' : World} {S T : Nat → Prop} {v : Value} {n : Nat} {vs : List V} (h : OwV w S v n vs) (hf : Fr w w' T) (hd : ∀ b, S b → ¬ T b) : OwV w' S v n vs := by
  obtain ⟨⟨h1, h2⟩, h3, h4⟩ := h
  refine ⟨⟨h1, ?_⟩, h3, h4⟩
  rcases h2 with h2 | ⟨g, cap, cur, hv, hg, hh, r⟩
  · exact Or.inl h2
  · exact Or.inr ⟨g, cap, cur, hv, hg, (hf.block g (Blk.lt hh) (hd g (h4 g (by rw [hv]; rfl)))).trans hh, r⟩
theorem vok_may {v : V} (h : v.may = true) (hn : N64 v) : VOk v := by
  refine ⟨hn, ?_⟩
  obtain ⟨k, n, s⟩ := v
  replace h : may k n s = true := h
  have hk := may_kind h
  have hk4 : k = 0 ∨ k = 1 ∨ k = 2 ∨ k = 3 := by omega
  rcases hk4 with rfl | rfl | rfl | rfl
  · simp [may, seq_eq] at h; rw [h.2]; exact Nat.zero_le _
  · simp [may, seq_eq] at h; rw [h]; exact Nat.zero_le _
  · simp [may] at h; simp only; omega
  · simp [may, seq_eq] at h; rw [h.1]; exact Nat.zero_le _
/-- the rows so far -/
structure Rx (w wr : World) (s : ByteArray) (q : Nat) (u : Value) (rows : List V) : Prop where
  cut : Cut wr (w.heap.size + 1) w.heap.size s q
  row : OwV wr (fun b => w.heap.size + 2 ≤ b) u rows.length rows
  bel : Below w.heap.size w wr
theorem Rx.cf {w wr w1 : World} {s : ByteArray} {q q' : Nat} {u : Value} {rows : List V} (h : Rx w wr s q u rows) (hc : Cut w1 (w.heap.size + 1) w.heap.size s q') (hf : Cf (w.heap.size + 1) wr w1) : Rx w w1 s q' u rows :=
  ⟨hc, h.row.keep hf (fun b hb e => by omega), h.bel.trans (Fr.below hf (fun b hb => by omega) (by have := h.bel.size; omega))⟩
theorem Rx.to {w wr : World} {s : ByteArray} {p q : Nat} {u : Value} {l : List V} (h : Rx w wr s p u l) (hq : q ≤ s.size) : Rx w (wr.setCell ⟨w.heap.size + 1, 0, none⟩ (.int .i64 (q : Int))) s q u l :=
  h.cf (h.cut.to hq) (Cf.set _)
theorem Rx.alloc {w wr : World} {s : ByteArray} {q : Nat} {u : Value} {l : List V} (h : Rx w wr s q u l) (o : Obj) : Rx w (wr.alloc o) s q u l :=
  ⟨h.cut.alloc o, h.row.alloc o, h.bel.alloc h.bel.size o⟩
theorem Rx.step {w wr w1 : World} {s : ByteArray} {q n' : Nat} {u v' : Value} {l l' : List V} (h : Rx w wr s q u l) (hgrow : wr.grownBy w1 u.ownBlock) (hn : OwV w1 (fun b => w.heap.size + 2 ≤ b ∨ wr.heap.size ≤ b) v' n' l') : Rx w w1 s q v' l' := by
  have hs := h.bel.size
  have hl := hn.len
  subst hl
  have hg1 : w.heap.size + 1 < wr.heap.size := h.cut.1.lt
  have hne : ∀ k, u.ownBlock = some k → w.heap.size + 2 ≤ k := h.row.2.2
  refine ⟨⟨h.cut.1.grown hgrow (fun e => ?_), h.cut.2.1.grown hgrow (fun e => ?_), h.cut.2.2⟩, hn.mono fun b _ hb => by omega, h.bel.grown hgrow hs fun k hk => by have := hne k hk; omega⟩
  · have := hne _ e.symm; omega
  · have := hne _ e.symm; omega
theorem Rx.own {w wr : World} {s : ByteArray} {q : Nat} {u : Value} {l : List V} (h : Rx w wr s q u l) : OwnV w wr u l := ⟨h.row.mono fun b _ hb => by omega, h.bel⟩

set_option maxRecDepth 100000 in
set_option maxHeartbeats 4000000 in
theorem decode_any (s : ByteArray) (hs : s.size ≤ 9223372036854775807) (w : World) : Calls Try.prog 16 #[.string s] w (Dec w s) := by
  by_cases h140 : s.size ≤ 140
  · have HC := Lib.hid (cutterOf_any s h140 w)
    unfold cutter at HC
    have hd : decO s = (match unK (sb s) with | some r => if r.length ≤ 16 then some r else none | none => none) := if_pos h140
    have HD := Lib.hid hd
    clear hd
    go_enter Try.func16, Try.ntmps16
    go_wp2_with fail
    refine HC.out.mono ?_
    rintro e w1 ⟨rfl, hcut, hb, hsz⟩
    have HR := Lib.hid (Rx.mk (u := .slice none 0 0) (rows := []) hcut (OwV.nil_ _ _) hb)
    clear hcut hb hsz HC
    go_wp2
    go_loopw [4] (fun v0 wr => ∃ (q : Nat) (rows : List V) (u : Value), u = v0 ∧ Rx w wr s q u rows ∧ rows.length ≤ 16 ∧ unK (sb s) = (unK ((sb s).drop q)).map fun z => rows ++ z) (fun _ wr => s.size - placeOf wr (w.heap.size + 1))
    case atStart => exact ⟨0, [], _, rfl, HR.out, by simp, by simp⟩
    case round =>
      obtain ⟨q, rows, u, rfl, hrx, h16, hun⟩ := hrel
      have hqs := hrx.cut.2.2.1
      have hpl := hrx.cut.place
      have HT := Lib.hid hrx
      have HU := Lib.hid hun
      have HP := Lib.hid hpl
      clear hrx hun hpl HR
      by_cases h1 : q + 1 ≤ s.size
      · have hd := drop_at s q h1
        have HC := Lib.hid (cut_yes _ _ s q 1 _ HT.out.cut h1)
        have HT1 := Lib.hid (HT.out.to h1)
        have hx256 := s[q].toNat_lt
        generalize hxe : s[q].toNat = x at hd hx256
        have HDR := Lib.hid hd
        clear hd hxe
        go_wp2_with fail
        refine HC.out.mono ?_
        rintro e w2 ⟨t, rfl, ht, htz, hw1⟩
        rw [HDR.out] at ht
        have hx := byte_of ht htz
        replace hw1 := hw1.symm
        have HT1 := Lib.hid (show Rx w w2 s (q + 1) u rows by rw [← hw1]; exact HT1.out)
        clear ht hw1 HC
        have HV := Lib.hid (cutValue_any _ _ s (q + 1) x _ HT1.out.cut)
        unfold cutter at HV
        go_wp2_with fail
        refine HV.out.mono ?_
        rintro e w3 ⟨hcf, hcase⟩
        clear HV
        rcases hcase with ⟨v, r, q', hu2, rfl, hcut3, rfl⟩ | ⟨hu2, v, rfl⟩
        · have HT3 := Lib.hid (HT1.out.cf hcut3 hcf)
          have HU2 := Lib.hid hu2
          obtain ⟨A, c, rfl, _, _, _, _⟩ := HT3.out.row.reads (by omega)
          have hrow := (one_un2 (by intro y hy; simp only [List.mem_cons] at hy; rcases hy with rfl | hy; exact hx256; exact sb_lt s y (List.mem_of_mem_drop hy)) hu2)
          have hvo := vok_may hrow.2.1 hrow.2.2
          have HVO := Lib.hid hvo
          clear hu2 hrow hvo hcut3 hcf
          have hrec : unK (sb s) = (unK ((sb s).drop q')).map fun z => rows ++ v :: z := by
            rw [HU.out, HDR.out, unK_some HU2.out]
            simp [Option.map_map, Function.comp_def]
          have HREC := Lib.hid hrec
          clear hrec
          by_cases h17 : rows.length = 16
          · have hdr : decO s = none := by
              rw [HD.out, HREC.out]
              cases unK ((sb s).drop q') with
              | none => rfl
              | some z => simp; omega
            have HDN := Lib.hid hdr
            have hl16 : (((rows.length : Nat) : Int) == 16) = true := by simp; omega
            clear hdr
            go_wp2
            go_ret2
            exact Or.inr ⟨HDN.out, rfl, (HT3.out.alloc _).bel⟩
          · have hl16 : (((rows.length : Nat) : Int) == 16) = false := by simp; omega
            obtain ⟨vk, vn, vs⟩ := v
            simp only at HREC HVO ⊢
            go_wp2_with (at_builtin; go_must (refine wpList_appV rfl (.tmp 36) (.tmp 38) rfl _ _ rows rfl ((HT3.out.alloc _).alloc _).row _ 1 1 [⟨vk, vn, vs⟩] rfl (by exact RV.one _ _ _ _ _ (by simp) HVO.out) (by omega) ?_); intro v1 w4 hown hgrow; have HS := Lib.hid (Rx.step ((HT3.out.alloc _).alloc _) hgrow hown); clear hown hgrow)
            go_roundw
            case rel =>
              refine ⟨q', rows ++ [⟨vk, vn, vs⟩], _, rfl, HS.out, by simp; omega, ?_⟩
              rw [HREC.out]
              simp
            case measure =>
              show _ - placeOf w4 _ < _ - placeOf wr _
              rw [HS.out.cut.place, HP.out]
              have := un2_len HU2.out
              have := HS.out.cut.2.2.1
              simp [sb_len] at *
              omega
        · have hdr : decO s = none := by
            rw [HD.out, HU.out, HDR.out, unK_none (by simp) hu2]
            rfl
          have HDN := Lib.hid hdr
          have hbel := (HT1.out.bel.trans (Fr.below hcf (fun b hb => by omega) (by have := HT1.out.bel.size; omega)))
          have HBL := Lib.hid hbel
          have hsz3 := hbel.size
          clear hdr hu2 hcf hbel
          go_wp2
          go_ret2
          exact Or.inr ⟨HDN.out, rfl, HBL.out.alloc hsz3 _⟩
      · have HC := Lib.hid (cut_no _ _ s q 1 _ HT.out.cut h1)
        have hdr : decO s = some rows := by
          rw [HD.out, HU.out, drop_end s q h1, unK_nil]
          simp [h16]
        have HDR := Lib.hid hdr
        clear hdr
        go_wp2_with fail
        refine HC.out.mono ?_
        rintro e w1 ⟨rfl, rfl⟩
        go_wp2
        go_ret2
        exact Or.inl ⟨rows, _, HDR.out, rfl, HT.out.own⟩
  · have hd : decO s = none := if_neg h140
    have HD := Lib.hid hd
    clear hd
    go_enter Try.func16, Try.ntmps16
    go_wp2
    go_ret2
    exact Or.inr ⟨HD.out, rfl, Below.refl _ _⟩

/-! ### awake -/
theorem RV.of_blk {w : World} {g : Nat} {vs : List V} (h : Blk w g 34 (vcs vs).toArray) (hv : ∀ v ∈ vs, VOk v) (hn : vs.length ≤ 9223372036854775806) : RV w (some ⟨g, 0, none⟩) vs.length vs := by
  refine ⟨rfl, hv, hn, fun _ => ⟨g, 0, rfl, h.lt, fun i v hi => ?_⟩⟩
  obtain ⟨a, b, c⟩ := vcs_at vs i v hi
  rw [Nat.zero_add]
  refine ⟨?_, ?_, ?_⟩
  · rw [h.cell]; simpa using a
  · rw [h.cell]; simpa using b
  · rw [h.cell]; simpa using c
def row3 : List V := [⟨0, 0, ⟨#[]⟩⟩, ⟨3, 1, ⟨#[]⟩⟩, ⟨2, 0, ⟨#[97]⟩⟩]
def row2 : List V := [⟨3, 0, ⟨#[]⟩⟩, ⟨0, 0, ⟨#[]⟩⟩]
theorem row3_enc : encE row3 = 0 ∧ encS row3 = ⟨#[1, 3, 5, 97, 0, 1]⟩ := by
  have hm : row3.all V.may = true := by simp [row3, V.may, may, seq_refl]; decide
  have hk : key row3 = [1, 3, 5, 97, 0, 1] := by decide
  obtain ⟨a, b⟩ := enc_ok (vs := row3) (by decide) hm (by rw [hk]; decide)
  refine ⟨a, ?_⟩
  rw [b, hk]
  rfl
theorem row3_ok : ∀ v ∈ row3, VOk v := by
  intro v hv
  simp only [row3, List.mem_cons, List.not_mem_nil, or_false] at hv
  rcases hv with rfl | rfl | rfl
  · exact ⟨by simp [N64], Nat.zero_le _⟩
  · exact ⟨by simp [N64], Nat.zero_le _⟩
  · exact ⟨by simp [N64], by show 1 ≤ _; omega⟩
theorem dec2 : decO ⟨#[2, 1]⟩ = some row2 := by
  have hk : sb ⟨#[2, 1]⟩ = key row2 := by decide
  have hu : unK (sb ⟨#[2, 1]⟩) = some row2 := by
    rw [hk]
    exact unK_key row2 (by simp [row2, V.may, may, seq_refl]) (by intro v hv; simp only [row2, List.mem_cons, List.not_mem_nil, or_false] at hv; rcases hv with rfl | rfl <;> simp [N64])
  have h : (⟨#[2, 1]⟩ : ByteArray).size ≤ 140 := by decide
  unfold decO
  rw [if_pos h, hu]
  rfl
set_option maxRecDepth 100000 in
set_option maxHeartbeats 2000000 in
theorem awake_any (w : World) : Calls Try.prog 14 #[] w fun e w' => e = .returned (.bool true) ∧ Below w.heap.size w w' := by
  have hr := RV.of_blk (Blk.new w 34 (vcs row3).toArray) row3_ok (by decide)
  have HE := Lib.hid (fun c => encode_any _ _ c row3 _ hr)
  have HD := Lib.hid (fun W => decode_any ⟨#[2, 1]⟩ (by decide) W)
  obtain ⟨e1, e2⟩ := row3_enc
  unfold Enc at HE
  unfold Dec at HD
  rw [e1, e2] at HE
  simp only [dec2] at HD
  have hv : veq 3 0 ⟨#[]⟩ 3 0 ⟨#[]⟩ = true := veq_eq.2 ⟨rfl, rfl, rfl⟩
  have hs : seq ⟨#[1, 3, 5, 97, 0, 1]⟩ ⟨#[1, 3, 5, 97, 0, 1]⟩ = true := seq_refl _
  clear hr e1 e2
  go_enter Try.func14, Try.ntmps14
  go_wp2_with fail
  refine (HE.out 3).mono ?_
  rintro e w1 ⟨rfl, hb1⟩
  have HB1 := Lib.hid (((Below.refl _ w).alloc (Nat.le_refl _) _).trans (hb1.mono (by simp)))
  clear hb1 HE
  go_wp2_with fail
  refine (HD.out _).mono ?_
  rintro e w2 hcase
  rcases hcase with ⟨r, v, hr, rfl, ho⟩ | ⟨hr, _⟩
  · injection hr with hr
    subst hr
    have HB2 := Lib.hid (below_trans HB1.out ho.2)
    obtain ⟨A, c, rfl, _, _, _, hrv⟩ := ho.1.reads (by decide)
    obtain ⟨g, o, v, rfl, hg, hv0, _, b0, b1, b2⟩ := hrv.at_ (k := 0) (by decide)
    have hve : v = ⟨3, 0, ⟨#[]⟩⟩ := by simpa [row2] using hv0.symm
    subst hve
    have hl2 : row2.length = 2 := rfl
    rw [hl2]
    simp only [Nat.zero_mul, Nat.add_zero] at b0 b1 b2
    clear ho hrv hv0 HB1 HD
    go_wp2
    go_ret
    exact ⟨rfl, HB2.out⟩
  · cases hr
end Go.Proofs.Ytjhlfgomoookjaa
