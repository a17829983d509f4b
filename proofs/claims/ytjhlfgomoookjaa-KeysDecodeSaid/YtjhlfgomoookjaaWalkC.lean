/-
  THE WALKS OF Encode, bound, From and To.
-/
import Derived.Test.YtjhlfgomoookjaaWalkB
namespace Go.Proofs.Ytjhlfgomoookjaa
open Go.RowKit Go.Sort
attribute [local go_sem high] run_eqv run_neqv run_eqs

/-- a value that comes in -/
structure VOk (x : V) : Prop where
  n : N64 x
  s : x.s.size ≤ 9223372036854775807
/-- The slice value '.slice A n c' reads as the row vs. -/
def RV (w : World) (A : Option Addr) (n : Nat) (vs : List V) : Prop :=
  vs.length = n ∧ (∀ v ∈ vs, VOk v) ∧ n ≤ 9223372036854775806 ∧ (0 < n → ∃ g o, A = some ⟨g, o, none⟩ ∧ g < w.heap.size ∧ ∀ i v, vs[i]? = some v → Box w g (o + i * 3) v.k v.n v.s)
theorem RV.below {w w' : World} {A : Option Addr} {n : Nat} {vs : List V} (h : RV w A n vs) (hb : Below w.heap.size w w') : RV w' A n vs := by
  obtain ⟨h1, h2, h2', h3⟩ := h
  refine ⟨h1, h2, h2', fun hn => ?_⟩
  obtain ⟨g, o, e, hg, hc⟩ := h3 hn
  exact ⟨g, o, e, Nat.lt_of_lt_of_le hg hb.size, fun i v hi => (hc i v hi).below hb hg⟩
theorem RV.at_ {w : World} {A : Option Addr} {n : Nat} {vs : List V} (h : RV w A n vs) {k : Nat} (hk : k < n) : ∃ g o v, A = some ⟨g, o, none⟩ ∧ g < w.heap.size ∧ vs[k]? = some v ∧ VOk v ∧ Box w g (o + k * 3) v.k v.n v.s := by
  obtain ⟨h1, h2, _, h3⟩ := h
  obtain ⟨g, o, e, hg, hc⟩ := h3 (by omega)
  have hv : vs[k]? = some vs[k] := List.getElem?_eq_getElem (by omega)
  exact ⟨g, o, _, e, hg, hv, h2 _ (List.getElem_mem _), hc k _ hv⟩
theorem take_next {vs : List V} {k : Nat} {v : V} (h : vs[k]? = some v) : vs.take (k + 1) = vs.take k ++ [v] := by
  rw [List.take_add_one, h]; rfl
theorem all_next {vs : List V} {k : Nat} {v : V} (h : vs[k]? = some v) (ha : (vs.take k).all V.may = true) (hv : v.may = true) : (vs.take (k + 1)).all V.may = true := by
  rw [take_next h, List.all_append, ha]
  simp [hv]
theorem all_not {vs : List V} {k : Nat} {v : V} (h : vs[k]? = some v) (hv : v.may = false) : vs.all V.may = false := by
  rw [Bool.eq_false_iff]
  intro ha
  rw [List.all_eq_true] at ha
  rw [ha v (List.mem_of_getElem? h)] at hv
  cases hv
theorem key_next {vs : List V} {k : Nat} {v : V} (h : vs[k]? = some v) : key (vs.take (k + 1)) = key (vs.take k) ++ one v := by
  rw [take_next h, key_append]
  simp [key]

/-- what Encode answers -/
def encE (vs : List V) : Int := if 16 < vs.length then 1 else if vs.all V.may = false then 5 else if 140 < (key vs).length then 51 else 0
def encS (vs : List V) : ByteArray := if encE vs = 0 then bs (key vs) else ⟨#[]⟩
theorem enc_long {vs : List V} (h : 16 < vs.length) : encE vs = 1 ∧ encS vs = ⟨#[]⟩ := by
  have e : encE vs = 1 := if_pos h
  exact ⟨e, by unfold encS; rw [e]; rfl⟩
theorem enc_form {vs : List V} (h : ¬ 16 < vs.length) (h2 : vs.all V.may = false) : encE vs = 5 ∧ encS vs = ⟨#[]⟩ := by
  have e : encE vs = 5 := by unfold encE; rw [if_neg h, if_pos h2]
  exact ⟨e, by unfold encS; rw [e]; rfl⟩
theorem enc_wide {vs : List V} (h : ¬ 16 < vs.length) (h2 : vs.all V.may = true) (h3 : 140 < (key vs).length) : encE vs = 51 ∧ encS vs = ⟨#[]⟩ := by
  have e : encE vs = 51 := by unfold encE; rw [if_neg h, if_neg (by simp [h2]), if_pos h3]
  exact ⟨e, by unfold encS; rw [e]; rfl⟩
theorem enc_ok {vs : List V} (h : ¬ 16 < vs.length) (h2 : vs.all V.may = true) (h3 : ¬ 140 < (key vs).length) : encE vs = 0 ∧ encS vs = bs (key vs) := by
  have e : encE vs = 0 := by unfold encE; rw [if_neg h, if_neg (by simp [h2]), if_neg h3]
  exact ⟨e, by unfold encS; rw [e]; rfl⟩
/-- the outcome of Encode -/
def Enc (w : World) (vs : List V) (e : Ending) (w' : World) : Prop := e = .returned (.tuple #[.string (encS vs), .int .i64 (encE vs)]) ∧ Below w.heap.size w w'

theorem run_conv (T : Nat → Prop) (A : Option Addr) (n c : Nat) (l : List Nat) (w : World) (h : RB w T A n l) :
    (convert 40 9 (.slice A n c)).run Try.prog w = .ok (.string (bs l)) w := by
  obtain ⟨hl, hx, h3⟩ := h
  rw [run_convert_bytes_string w 40 9 5 A n c Try.underlying40 Try.underlying5 Try.underlying9]
  rcases A with _ | ad
  · have hn : n = 0 := by
      rcases Nat.eq_zero_or_pos n with h0 | h0
      · exact h0
      · obtain ⟨_, e, _⟩ := h3 h0
        cases e
    subst hn
    have : l = [] := List.eq_nil_of_length_eq_zero hl
    subst this
    simp [Conv.bytesToString, bs]
    rfl
  · have hload : (loadCells ad n).run Try.prog w = .ok ((l.map fun x : Nat => (x : Int)).map (Value.int .u8)).toArray w := by
      have := run_loadCells_list (P := Try.prog) w ad ((l.map fun x : Nat => (x : Int)).map (Value.int .u8)) (fun j v hj => by
        have hjl : j < l.length := by
          rcases Nat.lt_or_ge j l.length with h | h
          · exact h
          · simp [List.getElem?_eq_none h] at hj
        obtain ⟨ad', e, _, _, hc⟩ := h3 (by omega)
        cases e
        rw [hc j (by omega)]
        simp [List.getElem?_eq_getElem hjl] at hj
        subst hj
        simp [hjl])
      simpa [hl] using this
    rw [run_bytesToString w ad n c _ hload, foldl_push_bytes]
    simp [bs, ByteArray.empty, ByteArray.emptyWithCapacity]
    rfl

theorem up1 {w wr w1 : World} {o : Obj} (h : Below w.heap.size w wr) (h2 : Below (wr.alloc o).heap.size (wr.alloc o) w1) : Below w.heap.size w w1 := (h.alloc h.size o).trans (h2.mono (by have := h.size; simp; omega))
set_option maxRecDepth 100000 in
set_option maxHeartbeats 2000000 in
theorem encode_any (A : Option Addr) (n c : Nat) (vs : List V) (w : World) (h : RV w A n vs) : Calls Try.prog 10 #[.slice A n c] w (Enc w vs) := by
  have hlen := h.1
  have hnb := h.2.2.1
  have H := Lib.hid h
  clear h
  by_cases h16 : 16 < n
  · obtain ⟨e1, e2⟩ := enc_long (vs := vs) (by omega)
    unfold Enc
    rw [e1, e2]
    clear H hlen e1 e2
    go_enter Try.func10, Try.ntmps10
    go_wp2
    go_ret2
    exact ⟨rfl, Below.refl _ _⟩
  · have HL := Lib.hid hlen
    clear hlen
    go_enter Try.func10, Try.ntmps10
    go_wp2
    go_loopw [14] (fun i wr => ∃ k : Nat, k ≤ n ∧ i = .int .i64 (k : Int) ∧ (vs.take k).all V.may = true ∧ Below w.heap.size w wr) (fun i _ => n - (intOf i).toNat)
    case atStart => exact ⟨0, by omega, rfl, rfl, Below.refl _ _⟩
    case round =>
      obtain ⟨k, hk, rfl, hall, hbel⟩ := hrel
      have HA := Lib.hid hall
      have HB := Lib.hid hbel
      have hsz := hbel.size
      clear hall hbel
      by_cases hlt : k < n
      · obtain ⟨g, o, v, rfl, hg, hv, hok, b0, b1, b2⟩ := (H.out.below HB.out).at_ hlt
        obtain ⟨vk, vn, vs'⟩ := v
        have HV := Lib.hid hv
        have hs := hok.s
        simp only at hs b0 b1 b2
        have HC := Lib.hid (may_any vk vn vs' hs)
        clear hv hok
        by_cases hm : may vk vn vs' = true
        · have HM := Lib.hid hm
          rw [hm] at HC
          clear hm
          go_wp2_with (go_at_call 22; refine (HC.out _).mono ?_; rintro e w1 ⟨rfl, hb⟩; have HB2 := Lib.hid hb; clear hb)
          go_roundw
          case rel =>
            refine ⟨k + 1, by omega, by go_num, all_next HV.out HA.out HM.out, up1 HB.out HB2.out⟩
          case measure => simp [intOf]; omega
        · have hm : may vk vn vs' = false := by simpa using hm
          rw [hm] at HC
          obtain ⟨e1, e2⟩ := enc_form (vs := vs) (by rw [HL.out]; exact h16) (all_not HV.out hm)
          go_wp2_with (go_at_call 22; refine (HC.out _).mono ?_; rintro e w1 ⟨rfl, hb⟩; have HB2 := Lib.hid hb; clear hb)
          go_ret2
          exact ⟨by rw [e1, e2]; rfl, up1 HB.out HB2.out⟩
      · obtain rfl : k = n := by omega
        have hall := HA.out
        rw [List.take_of_length_le (by rw [HL.out]; omega)] at hall
        have HW := Lib.hid hall
        clear hall HA
        go_wp2
        go_loopw [6, 24] (fun u0 i wq => ∃ (j : Nat) (u : Value), u = u0 ∧ j ≤ k ∧ i = .int .i64 (j : Int) ∧ Own w wq u (key (vs.take j))) (fun _ i _ => k - (intOf i).toNat)
        case atStart => exact ⟨0, _, rfl, by omega, rfl, by simpa [key] using Own.nil_at HB.out⟩
        case round =>
          obtain ⟨j, u, rfl, hj, rfl, ho⟩ := hrel
          have hjl : (vs.take j).all V.may = true := by
            have := HW.out
            rw [List.all_eq_true] at this ⊢
            exact fun x hx => this x (List.mem_of_mem_take hx)
          have hkl : (key (vs.take j)).length ≤ 131 * 16 := by
            refine Nat.le_trans (key_len _ hjl) (Nat.mul_le_mul_left _ ?_)
            simp
            omega
          have HO := Lib.hid ho
          clear ho
          by_cases hlt2 : j < k
          · obtain ⟨g, o, v, rfl, hg, hv, hok, b0, b1, b2⟩ := (H.out.below HO.out.2).at_ hlt2
            have hm : v.may = true := List.all_eq_true.1 HW.out v (List.mem_of_getElem? hv)
            have HC := Lib.hid (fun (W : World) (h : Own w W u (key (vs.take j))) => withValue_any w W u _ (by omega) h v hm hok.n)
            obtain ⟨vk, vn, vs'⟩ := v
            have HV := Lib.hid hv
            simp only at HC b0 b1 b2
            clear hv hok hm
            go_wp2_with (go_at_call 23; refine (HC.out _ (HO.out.alloc _)).mono ?_; rintro e w1 ⟨v1, rfl, ho1⟩; have HO1 := Lib.hid ho1; clear ho1)
            go_roundw
            case rel =>
              refine ⟨j + 1, _, rfl, by omega, by go_num, ?_⟩
              rw [key_next HV.out]
              exact HO1.out
            case measure => simp [intOf]; omega
          · obtain rfl : j = k := by omega
            rw [List.take_of_length_le (by rw [HL.out]; omega)] at HO hkl
            obtain ⟨a1, c1, rfl, _, _, hr⟩ := HO.out.1.reads
            have hcv := run_conv _ a1 _ c1 _ _ hr
            clear hr
            by_cases h140 : 140 < (key vs).length
            · obtain ⟨e1, e2⟩ := enc_wide (vs := vs) (by rw [HL.out]; exact h16) HW.out h140
              go_wp2
              go_ret2
              exact ⟨by rw [e1, e2]; rfl, HO.out.2⟩
            · obtain ⟨e1, e2⟩ := enc_ok (vs := vs) (by rw [HL.out]; exact h16) HW.out h140
              go_wp2
              go_ret2
              exact ⟨by rw [e1, e2]; rfl, HO.out.2⟩

/-! ### The ends of intervals -/
/-- a text with a byte 255 behind it -/
def beyond (s : ByteArray) : ByteArray := s ++ ⟨#[255]⟩
def endS (vs : List V) (b : Bool) : ByteArray := if encE vs = 0 then (if b then beyond (encS vs) else encS vs) else ⟨#[]⟩
def Ends (w : World) (vs : List V) (b : Bool) (e : Ending) (w' : World) : Prop := e = .returned (.tuple #[.string (endS vs b), .int .i64 (encE vs)]) ∧ Below w.heap.size w w'
theorem encS_err {vs : List V} (h : encE vs ≠ 0) : encS vs = ⟨#[]⟩ := if_neg h
theorem encS_len (vs : List V) : (encS vs).size ≤ 140 := by
  unfold encS
  by_cases h : encE vs = 0
  · rw [if_pos h, bs_size]
    unfold encE at h
    repeat' split at h
    all_goals omega
  · rw [if_neg h]
    exact Nat.zero_le _
set_option maxRecDepth 100000 in
set_option maxHeartbeats 2000000 in
theorem bound_any (A : Option Addr) (n c : Nat) (vs : List V) (b : Bool) (w : World) (h : RV w A n vs) : Calls Try.prog 24 #[.slice A n c, .bool b] w (Ends w vs b) := by
  have HC := Lib.hid (encode_any A n c vs w h)
  have hsz := encS_len vs
  unfold Enc at HC
  unfold Ends
  clear h
  by_cases h0 : encE vs = 0
  · have HE : Hid (∀ b, endS vs b = if b then beyond (encS vs) else encS vs) := fun b => if_pos h0
    rw [h0] at HC ⊢
    generalize encS vs = s at HC HE hsz
    cases b
    · rw [HE.out false]
      go_enter Try.func24, Try.ntmps24
      go_wp2_with (go_at_call 10; refine HC.out.mono ?_; rintro e w1 ⟨rfl, hb⟩; have HB := Lib.hid hb; clear hb)
      go_ret2
      exact ⟨rfl, HB.out⟩
    · rw [HE.out true]
      go_enter Try.func24, Try.ntmps24
      go_wp2_with (go_at_call 10; refine HC.out.mono ?_; rintro e w1 ⟨rfl, hb⟩; have HB := Lib.hid hb; clear hb)
      go_ret2
      exact ⟨rfl, HB.out⟩
  · have hE : endS vs b = ⟨#[]⟩ := if_neg h0
    have hS := encS_err h0
    rw [hE]
    rw [hS] at HC
    clear hE hS hsz
    generalize encE vs = x at h0 HC ⊢
    have hne : (x == 0) = false := by simpa using h0
    go_enter Try.func24, Try.ntmps24
    go_wp2_with (go_at_call 10; refine HC.out.mono ?_; rintro e w1 ⟨rfl, hb⟩; have HB := Lib.hid hb; clear hb)
    go_ret2
    exact ⟨rfl, HB.out⟩
set_option maxRecDepth 100000 in
theorem from_any (A : Option Addr) (n c : Nat) (vs : List V) (b : Bool) (w : World) (h : RV w A n vs) : Calls Try.prog 11 #[.slice A n c, .bool b] w (Ends w vs (!b)) := by
  have HC := Lib.hid (bound_any A n c vs (!b) w h)
  unfold Ends at HC ⊢
  clear h
  generalize endS vs (!b) = s at *
  generalize encE vs = x at *
  go_enter Try.func11, Try.ntmps11
  go_wp2_with (go_at_call 24; refine HC.out.mono ?_; rintro e w1 ⟨rfl, hb⟩; have HB := Lib.hid hb; clear hb)
  go_ret2
  exact ⟨rfl, HB.out⟩
set_option maxRecDepth 100000 in
theorem to_any (A : Option Addr) (n c : Nat) (vs : List V) (b : Bool) (w : World) (h : RV w A n vs) : Calls Try.prog 12 #[.slice A n c, .bool b] w (Ends w vs b) := by
  have HC := Lib.hid (bound_any A n c vs b w h)
  unfold Ends at HC ⊢
  clear h
  generalize endS vs b = s at *
  generalize encE vs = x at *
  go_enter Try.func12, Try.ntmps12
  go_wp2_with (go_at_call 24; refine HC.out.mono ?_; rintro e w1 ⟨rfl, hb⟩; have HB := Lib.hid hb; clear hb)
  go_ret2
  exact ⟨rfl, HB.out⟩
end Go.Proofs.Ytjhlfgomoookjaa
