/-
  THE WALK OF Load.
-/
import Derived.Test.YtjblcligkgjbjaaWalkJ
import Derived.Deep.RegionLaw
namespace Go.Proofs.Ytjblcligkgjbjaa
open Go.RowKit Go.Sort Go.Maps

def chunk (img : List Nat) (j : Nat) : List Nat := (img.drop (j * 512)).take 512
/-- the first i sectors are those of the image -/
def ldN (img : List Nat) (n i : Nat) : List (List Nat) := (List.range n).map fun j => if j < i then chunk img j else zsec
def DS.load (k : List (List Nat)) : DS := ⟨k, [], -1, false, 0, 0, 0⟩
set_option maxRecDepth 100000 in
theorem ldN_len (img : List Nat) (n i : Nat) : (ldN img n i).length = n := by simp [ldN]
set_option maxRecDepth 100000 in
theorem ldN_zero (img : List Nat) (n : Nat) : ldN img n 0 = List.replicate n zsec := by
  apply List.ext_getElem?
  intro j
  simp only [ldN, List.getElem?_map, Nat.not_lt_zero, if_false, List.getElem?_replicate]
  by_cases h : j < n
  · simp [h]
  · simp [h]
set_option maxRecDepth 100000 in
theorem ldN_succ (img : List Nat) {n i : Nat} (h : i < n) : ldN img n (i + 1) = (ldN img n i).set i (chunk img i) := by
  apply List.ext_getElem?
  intro j
  rw [List.getElem?_set]
  simp only [ldN, List.getElem?_map, List.length_map, List.length_range]
  by_cases hj : j < n
  · by_cases hij : i = j
    · subst hij
      simp [h]
    · rw [if_neg hij]
      have e : (j < i + 1) = (j < i) := by apply propext; omega
      simp [hj, e]
  · have : ¬ i = j := by omega
    simp [this, List.getElem?_eq_none (l := List.range n) (show (List.range n).length ≤ j by simp; omega)]
set_option maxRecDepth 100000 in
theorem chunk_sec {img : List Nat} (hx : ∀ x ∈ img, x < 256) {n i : Nat} (hl : img.length = n * 512) (h : i < n) : Sec (chunk img i) := by
  refine ⟨?_, fun x hx' => hx x (List.mem_of_mem_drop (List.mem_of_mem_take hx'))⟩
  simp only [chunk, List.length_take, List.length_drop, hl]
  have : (i + 1) * 512 ≤ n * 512 := Nat.mul_le_mul_right _ h
  omega
set_option maxRecDepth 100000 in
theorem ldN_sec {img : List Nat} (hx : ∀ x ∈ img, x < 256) {n i : Nat} (hl : img.length = n * 512) : ∀ s ∈ ldN img n i, Sec s := by
  intro s hs
  simp only [ldN, List.mem_map, List.mem_range] at hs
  obtain ⟨j, hj, rfl⟩ := hs
  split
  · exact chunk_sec hx hl hj
  · exact Sec.zero
set_option maxRecDepth 100000 in
theorem ldN_flat {img : List Nat} {n : Nat} (hl : img.length = n * 512) : (ldN img n n).flatten = img := by
  have e : ldN img n n = (List.range n).map (chunk img) := by
    simp only [ldN]
    refine List.map_congr_left fun j hj => ?_
    rw [if_pos (List.mem_range.1 hj)]
  rw [e]
  have key : ∀ k, ((List.range k).map (chunk img)).flatten = img.take (k * 512) := by
    intro k
    induction k with
    | zero => simp
    | succ k ih =>
      rw [List.range_succ, List.map_append, List.flatten_append, ih]
      simp only [List.map_cons, List.map_nil, List.flatten_cons, List.flatten_nil, List.append_nil, chunk]
      rw [show (k + 1) * 512 = k * 512 + 512 by omega, List.take_add]
  rw [key, ← hl, List.take_length]
set_option maxRecDepth 100000 in
theorem load_ok {img : List Nat} (hx : ∀ x ∈ img, x < 256) {n i : Nat} (hl : img.length = n * 512) (h0 : 0 < n) (hn : n ≤ 8192) : (DS.load (ldN img n i)).Ok :=
  ⟨by show 0 < (ldN img n i).length; rw [ldN_len]; exact h0, by show (ldN img n i).length ≤ 8192; rw [ldN_len]; exact hn, ldN_sec hx hl, (fun c hc => by cases hc), by simp [DS.load], by simp [DS.load], fun h => by cases h⟩

set_option maxRecDepth 100000 in
theorem step_copy_sec {ops : Array Oper} {o : Oper} {a : Act} {w : World} {K : Act → World → Prop} {Q : Exit → Act → World → Prop} {E : Prop} (hgd : o.guard = none) (d s : Operand)
    (ho : o.op = .call { callee := .builtin .copy, args := #[d, s], argTypes := #[33, 33] }) (g off dCap : Nat) (ad : Addr) (sLen sCap : Nat) (hd : a.eval d = .slice (some ⟨g, off, none⟩) 512 dCap) (hs : a.eval s = .slice (some ad) sLen sCap)
    (cur : Array Value) (t : TypeId) (hg : Blk w g t cur) (cs : List Value) (hn : cs.length = Nat.min sLen 512)
    (hsrc : ∀ j v, cs[j]? = some v → w.cell? (ad.add j) = some v) (hfit : off + cs.length ≤ cur.size) (h1 : ∀ v ∈ cs, v.oneCell' = true) (w' : World) (hw : w.setRow g (cur.toList.take off ++ cs ++ cur.toList.drop (off + cs.length)).toArray = w')
    (h : K (a.put o.dst (goInt cs.length)) w') : if Region.wanted o (yielded ops a.tmps) = true then Oper.wp Try.prog o a w K Q else E := by
  have hwt : Region.wanted o (yielded ops a.tmps) = true := by simp [Region.wanted, hgd]
  rw [if_pos hwt]
  obtain ⟨i0, hi0, hz0, hz1, hz2⟩ := info_parts info5
  have hrun := run_copy_row (P := Try.prog) w 33 33 o.type 5 g off 512 dCap ad sLen sCap cur t cs Try.underlying33 (by simp [hi0, hz1]) hg hn hsrc hfit h1
  rw [hw] at hrun
  unfold Oper.wp
  simp [execOp, ho, resolve, invoke, builtin, hd, hs, hrun, Result.andThen]
  exact h
section
variable {w w' : World} {S T : Nat → Prop} {g L M : Nat} {d d' : DS} {v : Value} {c c' : Int}
set_option maxRecDepth 100000 in
theorem DB.settleRow (h : DB w S g d L M v c) {a : Nat} (ha : a < d.kept.length) {s : List Nat} (hs : Sec s) :
    DB (w.setRow L (secs (d.kept.set a s)).toArray) S g { d with kept := d.kept.set a s } L M v c ∧ Fr w (w.setRow L (secs (d.kept.set a s)).toArray) S := by
  have hl := secs_len h.ok.sec
  have e := setCells_row h.l (o := a * 512) (u8s s) (by rw [List.size_toArray, hl, u8s_length, hs.1]; omega) (u8s_one s)
  rw [u8s_length, hs.1, show (secs d.kept).toArray.toList = secs d.kept from rfl, secs_set h.ok.sec ha s] at e
  rw [← e]
  exact h.settle ha hs
end
set_option maxRecDepth 100000 in
theorem load_form (w : World) (A : Option Addr) (n c : Nat) (hn : n ≤ 140737488351232) (h : n % 512 ≠ 0 ∨ n = 0 ∨ 4194304 < n) :
    Calls Try.prog 21 #[.slice A n c] w fun e w' => e = .returned (.tuple #[ptr none, .int .i64 5]) ∧ w = w' := by
  by_cases hm : n % 512 = 0
  · have hq : n / 512 < 1 ∨ 8192 < n / 512 := by omega
    obtain ⟨k, hk⟩ : ∃ k, k = n / 512 := ⟨_, rfl⟩
    have hN := Lib.hid (new_none (k : Int) (by omega) w)
    have h1 : (((n : Int).tmod 512) != 0) = false := by rw [bne_eq_false_iff_eq, Int.tmod_eq_emod_of_nonneg (by omega)]; omega
    have h2 : ((n : Int) % 512 != 0) = false := by simp; omega
    have h3 : (n : Int) / 512 = (k : Int) := by omega
    have h4 : (n : Int).tdiv 512 = (k : Int) := by rw [Int.tdiv_eq_ediv_of_nonneg (by omega)]; omega
    have h5 : IntKind.i64.wrap (k : Int) = (k : Int) := IntWalk.i64_in _ (by omega)
    have h6 : ((n : Int) % 512) = 0 := by omega
    have h7 : (n : Int).tmod 512 = 0 := by rw [Int.tmod_eq_emod_of_nonneg (by omega)]; omega
    clear hk h hq
    go_enter Try.func21, Try.ntmps21
    go_wp2_with (go_at_call 9; refine hN.out.mono ?_; rintro e w' ⟨rfl, rfl⟩)
    go_ret2
    exact ⟨rfl, rfl⟩
  · have h1 : (((n : Int).tmod 512) != 0) = true := by rw [bne_iff_ne, Int.tmod_eq_emod_of_nonneg (by omega)]; omega
    have h2 : ((n : Int) % 512 != 0) = true := by rw [bne_iff_ne]; omega
    have h3 : ¬ n % 512 = 0 := hm
    have h4 : ¬ ((n : Int) % 512 = 0) := by omega
    go_enter Try.func21, Try.ntmps21
    go_wp2
    go_ret2
    exact ⟨rfl, rfl⟩
set_option maxRecDepth 100000 in
theorem load_some (w : World) (T : Nat → Prop) (A : Option Addr) (n c k : Nat) (img : List Nat) (hr : RB w T A n img) (hnc : n ≤ c) (hk : n = k * 512) (h0 : 0 < k) (hk2 : k ≤ 8192) :
    Calls Try.prog 21 #[.slice A n c] w fun e w' => ∃ g, e = .returned (.tuple #[ptr (some g), .int .i64 0]) ∧ DAt w' (fun b => w.heap.size ≤ b) g (DS.load (ldN img k k)) ∧ Below w.heap.size w w' := by
  have hN := Lib.hid (new_any k h0 hk2 w)
  have h1 : (((n : Int).tmod 512) != 0) = false := by rw [bne_eq_false_iff_eq, Int.tmod_eq_emod_of_nonneg (by omega)]; omega
  have h2 : ((n : Int) % 512 != 0) = false := by rw [bne_eq_false_iff_eq]; omega
  have h3 : (n : Int) / 512 = (k : Int) := by omega
  have h4 : (n : Int).tdiv 512 = (k : Int) := by rw [Int.tdiv_eq_ediv_of_nonneg (by omega)]; omega
  have h5 : IntKind.i64.wrap (k : Int) = (k : Int) := IntWalk.i64_in _ (by omega)
  have h6 : ((n : Int) % 512) = 0 := by omega
  have h7 : (n : Int).tmod 512 = 0 := by rw [Int.tmod_eq_emod_of_nonneg (by omega)]; omega
  have hlen : img.length = k * 512 := by rw [hr.len, hk]
  have hx := hr.lt
  obtain ⟨ad, rfl⟩ : ∃ ad, A = some ad := by obtain ⟨_, _, h3⟩ := hr; obtain ⟨ad, e, _⟩ := h3 (by omega); exact ⟨ad, e⟩
  have HR := Lib.hid (hr.mono (T := fun b => b < w.heap.size) fun b hb _ => hb)
  have HL := Lib.hid hlen
  have HX := Lib.hid hx
  have HK := Lib.hid hk
  clear hr hlen hx hk
  go_enter Try.func21, Try.ntmps21
  go_wp2_with fail
  refine hN.out.mono ?_
  rintro e w1 ⟨g, rfl, hd0, hb0⟩
  have hd1 : DAt w1 (fun b => w.heap.size ≤ b) g (DS.load (ldN img k 0)) := by rw [ldN_zero]; exact hd0
  obtain ⟨L, M, v0, c0, hD⟩ := hd1
  have hc := hD.b.cell 0
  have HD := Lib.hid hD
  have HB := Lib.hid hb0
  clear hd0 hD hb0 hN h1 h2 h3 h4 h6 h7
  simp only [dcs, List.getElem?_toArray, List.getElem?_cons_zero, DS.load, ldN_len] at hc
  simp only [ptr, Option.map]
  go_wp2_with fail
  go_loopw [25] (fun u wr => ∃ i : Nat, u = .int .i64 (i : Int) ∧ i ≤ k ∧ DB wr (fun b => w.heap.size ≤ b) g (DS.load (ldN img k i)) L M v0 c0 ∧ Below w.heap.size w wr) (fun u _ => k - (intOf u).toNat)
  case atStart => exact ⟨0, rfl, by omega, HD.out, HB.out⟩
  case round =>
    obtain ⟨i, rfl, hi, hD, hb⟩ := hrel
    have HBi := Lib.hid hb
    have HDi := Lib.hid hD
    by_cases hlt : i < k
    · have hsec := chunk_sec HX.out HL.out hlt
      have hil : i < (DS.load (ldN img k i)).kept.length := by show i < (ldN img k i).length; rw [ldN_len]; exact hlt
      have hDd : DB wr.drew (fun b => w.heap.size ≤ b) g (DS.load (ldN img k i)) L M v0 c0 := hD.keep (T := No) (Fr.refl wr No).drew fun _ _ hn => hn
      obtain ⟨hD2, hF2⟩ := hDd.settleRow hil hsec
      have hrb := (HR.out.below hb fun _ h => h).drop (k := i * 512) (c := c) (by rw [HK.out]; omega) hnc
      have hne : ¬ c = i * 512 := by have := HK.out; omega
      rw [if_neg hne] at hrb
      simp only [Option.map_some] at hrb
      have hrb2 : RB wr.drew (fun b => b < w.heap.size) (some (ad.add (i * 512))) 512 (chunk img i) := by
        have h512 : 512 ≤ n - i * 512 := by have := HK.out; omega
        exact hrb.take h512
      obtain ⟨f, hf⟩ : ∃ f, f = i * 512 := ⟨_, rfl⟩
      have hmw := mul512 i (by omega)
      rw [← hf] at hmw hrb2 hne
      have hfn : (f : Int) ≤ (n : Int) := by have := HK.out; omega
      have hf0 : (0 : Int) ≤ (f : Int) := by omega
      have hfc : f ≤ c := by have := HK.out; omega
      have hfw : IntKind.i64.wrap (f : Int) = (f : Int) := IntWalk.i64_in _ (by omega)
      have hci := hD.b.cell 0
      simp only [dcs, List.getElem?_toArray, List.getElem?_cons_zero, DS.load, ldN_len] at hci
      have hcid : wr.drew.cell? ⟨g, 0, none⟩ = some (.slice (some ⟨L, 0, none⟩) k k) := hci
      have hik : (i : Int) < (k : Int) := by omega
      have hWn : IntKind.i64.wrap ((i : Int) + 1) = ((i + 1 : Nat) : Int) := by rw [IntWalk.i64_in _ (by omega)]; omega
      have A1 := Lib.hid hDd.l
      have A2 := Lib.hid hrb2.cells
      have A3 := Lib.hid (show (u8s (chunk img i)).length = Nat.min (n - f) 512 by rw [u8s_length, hsec.1]; exact (Nat.min_eq_right (by have := HK.out; omega)).symm)
      have A4 := Lib.hid (show i * 512 + (u8s (chunk img i)).length ≤ (secs (ldN img k i)).toArray.size by
        have hl := secs_len (ldN_sec HX.out HL.out (i := i))
        rw [ldN_len] at hl
        rw [List.size_toArray, hl, u8s_length, hsec.1]; omega)
      have A5 := Lib.hid (u8s_one (chunk img i))
      have A6 := Lib.hid (show wr.drew.setRow L ((secs (ldN img k i)).toArray.toList.take (i * 512) ++ u8s (chunk img i) ++ (secs (ldN img k i)).toArray.toList.drop (i * 512 + (u8s (chunk img i)).length)).toArray = wr.drew.setRow L (secs ((ldN img k i).set i (chunk img i))).toArray by
        rw [u8s_length, hsec.1]
        rw [show (secs (ldN img k i)).toArray.toList = secs (ldN img k i) from rfl, secs_set (ldN_sec HX.out HL.out) hil])
      have HD2 := Lib.hid hD2
      have HB2 := Lib.hid (HBi.out.trans (Fr.below (S := fun b => w.heap.size ≤ b) ((Fr.refl wr _).drew.same hF2) (fun _ h => h) HBi.out.size))
      have HS := Lib.hid (ldN_succ img hlt)
      clear hD hb hsec hil hDd hD2 hF2 hrb hrb2 hf hci
      go_upto_region 9 with fail
      go_region_law (refine step_copy_sec rfl (.tmp 34) (.tmp 38) rfl L (i * 512) 512 (ad.add f) (n - f) (c - f) rfl rfl _ 69 A1.out _ A3.out A2.out A4.out A5.out _ A6.out ?_)
      go_wp2
      go_roundw
      case rel => exact ⟨i + 1, by go_num, by omega, by rw [HS.out]; exact HD2.out, HB2.out⟩
      case measure => simp [intOf]; omega
    · obtain rfl : i = k := by omega
      go_wp2
      go_ret2
      exact ⟨g, rfl, ⟨L, M, v0, c0, HDi.out⟩, HBi.out⟩
end Go.Proofs.Ytjblcligkgjbjaa
