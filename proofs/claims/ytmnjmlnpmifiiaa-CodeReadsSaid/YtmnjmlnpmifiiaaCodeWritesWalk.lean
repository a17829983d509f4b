/-
  THE WALK OF CodeWrites: whatever is written, a writer has the bytes that the document says, behind each call.
-/
import Derived.Test.YtmnjmlnpmifiiaaWalkO
import Derived.Deep.RegionWith
import Derived.Deep.DrawnRows
namespace Go.Proofs.Ytmnjmlnpmifiiaa.codeWrites
open Go.RowKit

/-- the bytes of the first items -/
def bytes (its : List It) : List Nat := its.flatMap itB
theorem bytes_snoc (its : List It) (it : It) : bytes (its ++ [it]) = bytes its ++ itB it := by simp [bytes]
theorem bytes_lt (its : List It) : ∀ y ∈ bytes its, y < 256 := by
  intro y hy
  simp only [bytes, List.mem_flatMap] at hy
  obtain ⟨it, _, hy⟩ := hy
  exact itB_lt it y hy
theorem bytes_len (its : List It) (h : ∀ it ∈ its, it.Ok) : (bytes its).length ≤ 10 * its.length + (its.map fun it => it.s.size).sum := by
  induction its with
  | nil => simp [bytes]
  | cons a r ih =>
    have h1 := itB_len a (h a (by simp))
    have h2 := ih fun it hit => h it (by simp [hit])
    simp only [bytes, List.flatMap_cons, List.length_append, List.length_cons, List.map_cons, List.sum_cons] at h2 ⊢
    omega
theorem take_bytes {its : List It} {k : Nat} {it : It} (h : its[k]? = some it) : bytes (its.take (k + 1)) = bytes (its.take k) ++ itB it := by
  have hl : k < its.length := by
    rcases Nat.lt_or_ge k its.length with h' | h'
    · exact h'
    · rw [List.getElem?_eq_none h'] at h; cases h
  rw [List.getElem?_eq_getElem hl] at h
  injection h with h
  rw [List.take_succ_eq_append_getElem hl, bytes_snoc, h]

theorem Ow.cell_at {w : World} {S : Nat → Prop} {v : Value} {n : Nat} {l : List Nat} (h : Ow w S v n l) {j : Nat} (hj : j < n) :
    ∃ g cap, v = .slice (some ⟨g, 0, none⟩) n cap ∧ S g ∧ w.cell? ⟨g, j, none⟩ = some (.int .u8 ((l.getD j 0 : Nat) : Int)) ∧ w.frozen? ⟨g, j, none⟩ = false ∧
      ∀ y : Nat, y < 256 → Ow (w.setCell ⟨g, j, none⟩ (.int .u8 (y : Int))) S v n (l.set j y) := by
  have hln := h.len
  obtain ⟨ho, hl, hS⟩ := h
  rcases ho.2 with ⟨_, h0⟩ | ⟨g, cap, cur, rfl, _, hg, hc, _, hcur, htake⟩
  · omega
  · refine ⟨g, cap, rfl, hS g rfl, ?_, ho.frozenAt j, fun y hy => ⟨?_, ?_, hS⟩⟩
    · rw [ho.cellAt j (by omega)]
      exact u8s_at l j (by omega)
    · have := (ho.stored j (.int .u8 (y : Int))).1
      have e : (u8s l).set j (.int .u8 (y : Int)) = u8s (l.set j y) := by simp [u8s, List.map_set]
      rw [e] at this
      exact this
    · intro x hx
      rcases List.mem_or_eq_of_mem_set hx with hx | hx
      · exact hl x hx
      · rw [hx]; exact hy

/-- what the loop carries on -/
def Inv (w : World) (p : Option Nat) (l : List Nat) (v : Value) (wr : World) : Prop :=
  ∃ SW SO : Nat → Prop, Wr wr SW p true l ∧ Ow wr SO v l.length l ∧ (∀ b, SW b → w.heap.size ≤ b) ∧ (∀ b, SO b → w.heap.size ≤ b) ∧ (∀ b, SW b → ¬ SO b) ∧ Below w.heap.size w wr

theorem Inv.below {w wr w2 : World} {p : Option Nat} {l : List Nat} {v : Value} (h : Inv w p l v wr) (hb : Below wr.heap.size wr w2) : Inv w p l v w2 := by
  obtain ⟨SW, SO, hw, ho, h1, h2, h3, h4⟩ := h
  have hf := Fr.of_below hb (fun b => wr.heap.size ≤ b)
  exact ⟨fun b => SW b ∧ b < wr.heap.size, fun b => SO b ∧ b < wr.heap.size, Wr.keep (Wr.up hw) hf (fun b hb => by omega), (ho.mono (T := fun b => SO b ∧ b < wr.heap.size) fun b hb hs => ⟨hs, hb⟩).keep hf (fun b hb => by omega),
    fun b hb => h1 b hb.1, fun b hb => h2 b hb.1, fun b hb hs => h3 b hb.1 hs.1, h4.trans (hb.mono h4.size)⟩
theorem inv_step {w wr w1 w2 : World} {SW SO : Nat → Prop} {p : Option Nat} {l k : List Nat} {v v2 : Value} {n2 : Nat} (ho : Ow wr SO v l.length l) (h1 : ∀ b, SW b → w.heap.size ≤ b) (h2 : ∀ b, SO b → w.heap.size ≤ b) (h3 : ∀ b, SW b → ¬ SO b) (h4 : Below w.heap.size w wr)
    (hw : Wrote wr SW p true l k w1) (hn : Ow w2 (fun b => (SO b ∧ b < wr.heap.size) ∨ w1.heap.size ≤ b) v2 n2 (l ++ k)) (hg : w1.grownBy w2 v.ownBlock) : Inv w p (l ++ k) v2 w2 := by
  have hln := hn.len
  subst hln
  have hs := hw.2.size
  have hb1 : Below w.heap.size w w1 := h4.trans (hw.2.below h1 h4.size)
  have hv : ∀ b, v.ownBlock = some b → SO b ∧ b < wr.heap.size := fun b hb => ⟨ho.2.2 b hb, (ho.1.lt b hb).2⟩
  have hf : Fr w1 w2 (fun b => some b = v.ownBlock) := (Fr.refl w1 _).grown hg fun b hb => Or.inl hb.symm
  have hd : ∀ b, (Up SW wr b ∧ b < w1.heap.size) → ¬ (some b = v.ownBlock) := by
    rintro b ⟨hb, _⟩ he
    obtain ⟨e1, e2⟩ := hv b he.symm
    rcases hb with hb | hb
    · exact h3 b hb e1
    · omega
  have hw2 : Wr w2 (fun b => (Up SW wr b ∧ b < w1.heap.size) ∧ ¬ (some b = v.ownBlock)) p true (l ++ k) := Wr.mono (Wr.keep (Wr.up hw.1) hf hd) fun b _ hb => ⟨hb, hd b hb⟩
  refine ⟨fun b => Up SW wr b ∧ b < w1.heap.size, fun b => (SO b ∧ b < wr.heap.size) ∨ w1.heap.size ≤ b, Wr.mono hw2 fun b _ hb => hb.1, hn, ?_, ?_, ?_, hb1.grown hg hb1.size fun b hb => h2 b (hv b hb).1⟩
  · rintro b ⟨hb | hb, _⟩
    · exact h1 b hb
    · have := h4.size; omega
  · rintro b (hb | hb)
    · exact h2 b hb.1
    · have := hb1.size; omega
  · rintro b ⟨hb, hlt⟩ (hs | hs)
    · rcases hb with hb | hb
      · exact h3 b hb hs.1
      · omega
    · omega

set_option maxRecDepth 100000 in
set_option maxHeartbeats 4000000 in
theorem walked (A : Option Addr) (n c : Nat) (its : List It) (w : World) (h : Its w w.heap.size A n its) (hn : n ≤ 140737488351232) :
    Calls Try.prog 3 #[.slice A n c] w fun e w' => e = .returned (.bool true) ∧ Below w.heap.size w w' := by
  have HL := Lib.hid (long_any w _ A n c its h hn)
  have HI := Lib.hid h
  clear h
  cases hlong : longB its with
  | true =>
    rw [hlong] at HL
    clear hlong
    go_enter Try.func3, Try.ntmps3
    go_wp2_with (first | (go_at_call 9; refine HL.out.mono ?_; rintro e w' ⟨rfl, rfl⟩) | (go_at_call 10; refine (alive_any _).mono ?_; rintro e w1 ⟨rfl, hb⟩))
    go_ret
    exact ⟨rfl, hb⟩
  | false =>
    rw [hlong] at HL
    obtain ⟨hl1, hl2, hl3⟩ := longB_no hlong
    have HS := Lib.hid hl2
    have HT := Lib.hid hl3
    have hlen := HI.out.1
    have hn3 : n ≤ 300 := by omega
    have HLEN := Lib.hid hlen
    clear hlong hl2 hl3 hlen hl1
    go_enter Try.func3, Try.ntmps3
    go_wp2_with (first | (go_at_call 9; refine HL.out.mono ?_; rintro e w' ⟨rfl, rfl⟩) | (go_at_call 11; refine (newWriter_any _).mono ?_; rintro e w1 ⟨rfl, hw1, hb1⟩; have HW1 := Lib.hid hw1; have HB1 := Lib.hid hb1; clear hw1 hb1))
    go_loopw [4, 5] (fun v0 i wr => ∃ (k : Nat) (v : Value), v = v0 ∧ k ≤ n ∧ i = .int .i64 (k : Int) ∧ Inv w (some w.heap.size) (bytes (its.take k)) v wr) (fun _ i _ => n - (intOf i).toNat)
    case atStart => exact ⟨0, _, rfl, by omega, rfl, fun b => w.heap.size ≤ b, No, HW1.out, Ow.nil_ _ _, fun _ hb => hb, fun _ hb => hb.elim, fun _ _ hn => hn, HB1.out⟩
    case round =>
      obtain ⟨k, v, rfl, hk, rfl, hinv⟩ := hrel
      obtain ⟨SW, SO, hw, ho, h1, h2, h3, hb⟩ := hinv
      have hL : (bytes (its.take k)).length ≤ 3000 + 1048576 := by
        have := bytes_len (its.take k) (fun it hit => HI.out.2.1 it (List.mem_of_mem_take hit))
        have h4 := HT.out k
        have h5 : (its.take k).length ≤ 300 := by simp; omega
        omega
      have H3 := Lib.hid h3
      have H1 := Lib.hid h1
      have H2 := Lib.hid h2
      have HB := Lib.hid hb
      have HO := Lib.hid ho
      have HW := Lib.hid hw
      have hsz := hb.size
      clear h1 h2 h3 ho hb
      by_cases hlt : k < n
      · obtain ⟨bb, oo, it, rfl, hbb, hit, hok, c0, c1, c2, c3⟩ := (HI.out.below HB.out).at_ hlt
        have HIT := Lib.hid hit
        have HOK := Lib.hid hok
        have hC := write_any wr SW (some w.heap.size) true (bytes (its.take k)) it hok (HS.out it (List.mem_of_getElem? hit)) (by omega) hw
        have HC := Lib.hid hC
        unfold It.agg at HC
        clear hit hok hw hC
        go_wp2_with fail
        refine HC.out.mono ?_
        rintro e w1 ⟨A1, c1, rfl, hr1, hw1, hf1⟩
        have hs1 := hf1.size
        have hib := itB_len it HOK.out
        have his := HS.out it (List.mem_of_getElem? HIT.out)
        have ho1 := (HO.out.mono (T := fun b => SO b ∧ b < wr.heap.size) fun b hb hs => ⟨hs, hb⟩).keep hf1 (fun b hb hs => H3.out b hs hb.1)
        have HO1 := Lib.hid ho1
        have HR1 := Lib.hid hr1
        have HW2 := Lib.hid (show Wrote wr SW (some w.heap.size) true (bytes (its.take k)) (itB it) w1 from ⟨hw1, hf1⟩)
        have hL2 : (bytes (its.take k)).length + (itB it).length ≤ 140737488351232 := by omega
        have hE := take_bytes HIT.out
        have HE := Lib.hid hE
        clear hr1 hw1 hf1 ho1 hib his hE
        go_wp2_with (at_builtin; go_must (refine wpList_app rfl (.tmp 25) (.tmp 26) rfl v _ (bytes (its.take k)) rfl HO1.out _ A1 _ c1 (itB it) rfl HR1.out hL2 ?_); intro v2 w2 hown hgrow; have HN := Lib.hid (inv_step HO.out H1.out H2.out H3.out HB.out HW2.out hown hgrow); clear hown hgrow)
        obtain ⟨l', hl'⟩ : ∃ l', l' = bytes (its.take (k + 1)) := ⟨_, rfl⟩
        have hinv : Inv w (some w.heap.size) l' v2 w2 := by rw [hl', HE.out]; exact HN.out
        have hll : l'.length ≤ 140737488351232 := by rw [hl', HE.out, List.length_append]; exact hL2
        have HLL := Lib.hid hl'
        have HINV := Lib.hid hinv
        have hs2 : w.heap.size ≤ w2.heap.size := by obtain ⟨_, _, _, _, _, _, _, h4⟩ := hinv; exact h4.size
        have hC2 : Calls Try.prog 13 #[ptr (some w.heap.size)] w2 (New w2 l') := by
          obtain ⟨_, _, hw, _⟩ := hinv
          exact wbytes_any w2 _ _ true l' hw hll
        obtain ⟨A2, cc2, rfl⟩ : ∃ A2 cc2, v2 = .slice A2 l'.length cc2 := by
          obtain ⟨_, _, _, ho, _⟩ := hinv
          obtain ⟨A2, cc2, e, _⟩ := ho.reads
          exact ⟨A2, cc2, e⟩
        clear hl' hinv HN
        refine hC2.mono ?_
        clear hC2
        rintro e w3 ⟨v3, rfl, ho3, hb3⟩
        have hinv3 := HINV.out.below hb3
        obtain ⟨A3, cc3, rfl, _, _, hr3⟩ := ho3.reads
        have hcv1 := run_conv _ A3 l'.length cc3 l' w3 hr3
        have hcv2 : (convert 27 9 (.slice A2 l'.length cc2)).run Try.prog w3 = .ok (.string (strOf l')) w3 := by
          obtain ⟨_, _, _, ho, _⟩ := hinv3
          obtain ⟨A, cc, e, _, _, hr⟩ := ho.reads
          injection e with e1 e2 e3
          subst e1 e3
          exact run_conv _ _ _ _ _ w3 hr
        have hC3 : Calls Try.prog 14 #[ptr (some w.heap.size)] w3 fun e w' => e = .returned (.int .i64 ((l'.length : Nat) : Int)) ∧ w3 = w' := by
          obtain ⟨_, _, hw, _⟩ := hinv3
          exact wlen_any w3 _ _ true l' hw
        have HC3 := Lib.hid hC3
        have HO3 := Lib.hid ho3
        have HB3 := Lib.hid hb3
        clear ho3 hb3 hr3 hC3 hinv3
        go_wp2_with (go_at_call 14; refine HC3.out.mono ?_; rintro e w' ⟨rfl, rfl⟩)
        go_loopw [8] (fun i wq => ∃ (j : Nat) (q : List Nat), j ≤ l'.length ∧ i = .int .i64 (j : Int) ∧ Ow wq (fun b => w2.heap.size ≤ b) (.slice A3 l'.length cc3) l'.length q ∧ Below w2.heap.size w2 wq) (fun i _ => l'.length - (intOf i).toNat)
        case atStart => exact ⟨0, l', by omega, rfl, HO3.out, HB3.out⟩
        case round =>
          obtain ⟨j, q, hj, rfl, hoq, hbq⟩ := hrel
          by_cases hjl : j < l'.length
          · obtain ⟨g, cap, e, hS, hc, hf, hset⟩ := Ow.cell_at hoq hjl
            injection e with e1 e2 e3
            subst e1 e3
            have HSET := Lib.hid (hset 0 (by omega))
            have HBQ := Lib.hid (hbq.setCell (p := ⟨g, j, none⟩) hS (.int .u8 0))
            clear hset hoq hbq
            go_wp2
            go_roundw
            case rel => exact ⟨j + 1, _, by omega, by go_num, HSET.out, HBQ.out⟩
            case measure => simp [intOf]; omega
          · have HI2 := Lib.hid (HINV.out.below hbq)
            clear hoq hbq
            go_wp2
            go_roundw
            case rel => exact ⟨k + 1, _, rfl, by omega, by go_num, by rw [← HLL.out]; exact HI2.out⟩
            case measure => simp [intOf]; omega
      · obtain rfl : k = n := by omega
        have hfull : its.take k = its := List.take_of_length_le (by rw [HLEN.out]; omega)
        obtain ⟨l', hl'⟩ : ∃ l', l' = bytes (its.take k) := ⟨_, rfl⟩
        rw [← hl'] at hL
        have ho := HO.out
        rw [← hl'] at hw ho
        obtain ⟨A2, cc2, rfl, _, _, hr2⟩ := ho.reads
        have hcv := run_conv _ A2 l'.length cc2 l' wr.drew hr2.drew
        have hC := wbytes_any wr.drew SW _ true l' (Wr.drew hw) (by omega)
        have HC := Lib.hid hC
        have HR2 := Lib.hid hr2.drew
        have HB2 := Lib.hid HB.out.drew
        clear hw ho hr2 hC hl' hfull
        go_wp2_with fail
        go_region_with (first
          | (go_at_call 13; refine HC.out.mono ?_; rintro e w1 ⟨v1, rfl, ho1, hb1⟩; obtain ⟨A1, cc1, rfl, _, _, hr1⟩ := ho1.reads; have hcv1 := run_conv _ A1 l'.length cc1 l' w1 hr1; have hcv2 := run_conv _ A2 l'.length cc2 l' w1 (((HR2.out.mono (T := fun b => b < wr.drew.heap.size) fun b hb _ => hb).below hb1) fun b hb => hb); have HB3 := Lib.hid (HB2.out.trans (hb1.mono hsz)); have hs1 := HB3.out.size; clear ho1 hb1 hr1)
          | (go_at_call 10; refine (alive_any _).mono ?_; rintro e w2 ⟨rfl, hb2⟩; have HB4 := Lib.hid (HB3.out.trans (hb2.mono hs1)); clear hb2))
        all_goals
          go_wp2
          go_ret
          exact ⟨rfl, HB4.out⟩
end Go.Proofs.Ytmnjmlnpmifiiaa.codeWrites
