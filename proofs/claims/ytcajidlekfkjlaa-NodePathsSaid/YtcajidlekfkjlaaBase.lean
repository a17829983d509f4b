/-
WORDS TAKEN OVER: texts as bytes, rows of the call's own, bytes.Clone, string(bytes).
-/
import Derived.Test.YtcajidlekfkjlaaWords
import Derived.Lib.SliceRun
import Derived.Lib.Small
namespace Go.Proofs.Ytcajidlekfkjlaa
open Go.RowKit
/-- new blocks are let in -/
def Up (S : Nat → Prop) (w : World) : Nat → Prop := fun b => S b ∨ w.heap.size ≤ b

def bs (s : ByteArray) : List Nat := s.data.toList.map UInt8.toNat
set_option maxRecDepth 100000 in
theorem bs_len (s : ByteArray) : (bs s).length = s.size := by simp [bs]
set_option maxRecDepth 100000 in
theorem bs_lt (s : ByteArray) : ∀ x ∈ bs s, x < 256 := by
  intro x hx
  simp only [bs, List.mem_map] at hx
  obtain ⟨b, _, rfl⟩ := hx
  exact b.toNat_lt
set_option maxRecDepth 100000 in
theorem bs_cells (s : ByteArray) : Lib.strCells s = u8s (bs s) := by simp [Lib.strCells, u8s, bs, Function.comp_def]
def strOf (l : List Nat) : ByteArray := ⟨(l.map UInt8.ofNat).toArray⟩
set_option maxRecDepth 100000 in
theorem strOf_bs (s : ByteArray) : strOf (bs s) = s := by
  unfold strOf bs
  have : (List.map UInt8.ofNat (List.map UInt8.toNat s.data.toList)) = s.data.toList := by
    rw [List.map_map]
    conv => rhs; rw [← List.map_id s.data.toList]
    exact List.map_congr_left fun b _ => by simp
  rw [this]
set_option maxRecDepth 100000 in
theorem bs_strOf (l : List Nat) (h : ∀ x ∈ l, x < 256) : bs (strOf l) = l := by
  unfold strOf bs
  simp only [List.map_map]
  conv => rhs; rw [← List.map_id l]
  refine List.map_congr_left fun x hx => ?_
  have := h x hx
  simp
  omega
set_option maxRecDepth 100000 in
theorem strOf_inj {l k : List Nat} (hl : ∀ x ∈ l, x < 256) (hk : ∀ x ∈ k, x < 256) (h : strOf l = strOf k) : l = k := by
  rw [← bs_strOf l hl, ← bs_strOf k hk, h]
/-- a new row with the bytes l is answered; what was there is as it was -/
def New (w : World) (l : List Nat) (e : Ending) (w' : World) : Prop := ∃ v, e = .returned v ∧ Ow w' (fun b => w.heap.size ≤ b) v l.length l ∧ Below w.heap.size w w'
/-- a row of the call's own that grows -/
def Own (w wr : World) (v : Value) (l : List Nat) : Prop := Ow wr (fun b => w.heap.size ≤ b) v l.length l ∧ Below w.heap.size w wr
set_option maxRecDepth 100000 in
theorem Own.nil_ (w : World) : Own w w (.slice none 0 0) [] := ⟨Ow.nil_ _ _, Below.refl _ _⟩
set_option maxRecDepth 100000 in
theorem Own.made (w : World) : Own w (w.alloc (.cells #[] 5)) (.slice (some ⟨w.heap.size, 0, none⟩) 0 0) [] := ⟨Ow.made _ _ (Nat.le_refl _), (Below.refl _ _).alloc (Nat.le_refl _) _⟩
set_option maxRecDepth 100000 in
theorem Own.step {w wr w1 : World} {v v' : Value} {n' : Nat} {l l' : List Nat} (h : Own w wr v l) (hgrow : wr.grownBy w1 v.ownBlock) (hn : Ow w1 (fun b => w.heap.size ≤ b ∨ wr.heap.size ≤ b) v' n' l') : Own w w1 v' l' := by
  have hs := h.2.size
  have hl := hn.len
  subst hl
  exact ⟨hn.mono fun b _ hb => by omega, h.2.grown hgrow hs fun k hk => h.1.2.2 k hk⟩
set_option maxRecDepth 100000 in
theorem Own.alloc {w wr : World} {v : Value} {l : List Nat} (h : Own w wr v l) (o : Obj) : Own w (wr.alloc o) v l := ⟨h.1.alloc o, h.2.alloc h.2.size o⟩
set_option maxRecDepth 100000 in
theorem Own.new {w wr : World} {v : Value} {l : List Nat} (h : Own w wr v l) : New w l (.returned v) wr := ⟨v, rfl, h.1, h.2⟩

set_option maxRecDepth 100000 in
theorem clone_any (w : World) (T : Nat → Prop) (A : Option Addr) (n c : Nat) (l : List Nat) (hr : RB w T A n l) (hn : n ≤ 140737488351232) :
    Calls Try.prog 62 #[.slice A n c] w (New w l) := by
  rcases A with _ | ad
  · have h0 : n = 0 := by
      rcases Nat.eq_zero_or_pos n with h0 | h0
      · exact h0
      · obtain ⟨_, e, _⟩ := hr.2.2 h0
        cases e
    subst h0
    have hk : l = [] := List.eq_nil_of_length_eq_zero hr.1
    subst hk
    clear hr
    have he := fun W : World => Lib.run_eql_slice_nil (P := Try.prog) W 46 5 none 0 c 0 0 Try.underlying46
    go_enter Try.func62, Try.ntmps62
    go_wp2
    go_ret
    exact (Own.nil_ w).new
  · have he := fun W : World => Lib.run_eql_slice_nil (P := Try.prog) W 46 5 (some ad) n c 0 0 Try.underlying46
    have HR := Lib.hid (hr.alloc (.cells #[] 5))
    have HO := Lib.hid (Own.made w)
    clear hr
    go_enter Try.func62, Try.ntmps62
    go_wp2_with (at_builtin; go_must (refine wpList_app rfl (.tmp 5) (.tmp 6) rfl _ 0 [] rfl HO.out.1 T (some ad) n c l rfl HR.out (by omega) ?_); intro v1 w2 hown hgrow; have HS := Lib.hid (Own.step HO.out hgrow hown); clear hown hgrow)
    go_ret
    exact HS.out.new

set_option maxRecDepth 100000 in
theorem bs_at (s : ByteArray) (j : Nat) (h : j < s.size) : (bs s).take (j + 1) = (bs s).take j ++ [s[j].toNat] := by
  have hl : j < (bs s).length := by rw [bs_len]; exact h
  rw [List.take_succ_eq_append_getElem hl]
  congr 1
  simp only [bs, List.getElem_map, Array.getElem_toList]
  rfl

set_option maxRecDepth 100000 in
theorem run_conv (T : Nat → Prop) (A : Option Addr) (n c : Nat) (l : List Nat) (w : World) (h : RB w T A n l) :
    (convert 46 9 (.slice A n c)).run Try.prog w = .ok (.string (strOf l)) w := by
  obtain ⟨hl, hx, h3⟩ := h
  rw [run_convert_bytes_string w 46 9 5 A n c Try.underlying46 Try.underlying5 Try.underlying9]
  rcases A with _ | ad
  · have hn : n = 0 := by
      rcases Nat.eq_zero_or_pos n with h0 | h0
      · exact h0
      · obtain ⟨_, e, _⟩ := h3 h0
        cases e
    subst hn
    have : l = [] := List.eq_nil_of_length_eq_zero hl
    subst this
    simp [Conv.bytesToString, strOf]
    rfl
  · have hload : (loadCells ad n).run Try.prog w = .ok ((l.map fun x : Nat => (x : Int)).map (Value.int .u8)).toArray w := by
      have := run_loadCells_list (P := Try.prog) w ad ((l.map fun x : Nat => (x : Int)).map (Value.int .u8)) (fun j v hj => by
        have hjl : j < l.length := by
          rcases Nat.lt_or_ge j l.length with h | h
          · exact h
          · simp [List.getElem?_eq_none h] at hj
        obtain ⟨ad', e, _, _, hc⟩ := h3 (by omega)
        cases e
        rw [hc j (by omega)]
        simp [List.getElem?_eq_getElem hjl] at hj
        subst hj
        simp [hjl])
      simpa [hl] using this
    rw [run_bytesToString w ad n c _ hload, foldl_push_bytes]
    simp [strOf, ByteArray.empty, ByteArray.emptyWithCapacity]
    rfl

set_option maxRecDepth 100000 in
theorem strOf_size (l : List Nat) : (strOf l).size = l.length := by simp [strOf, ByteArray.size]
set_option maxRecDepth 100000 in
theorem run_cvb (w : World) (l : List Nat) (hl : ∀ x ∈ l, x < 256) : ∃ (c : Nat) (o : Obj), l.length ≤ c ∧ (convert 9 46 (.string (strOf l))).run Try.prog w = .ok (.slice (some ⟨w.heap.size, 0, none⟩) l.length c) (w.drew.alloc o) ∧
    RB (w.drew.alloc o) (fun b => w.heap.size ≤ b) (some ⟨w.heap.size, 0, none⟩) l.length l := by
  refine ⟨_, _, ?_, by rw [run_bytes_of_string w 9 46 5 (strOf l) Try.underlying9 Try.underlying46 Try.underlying5, strOf_size], rfl, hl, fun _ => ⟨_, rfl, by simp, Nat.le_refl _, fun j hj => ?_⟩⟩
  · exact grownCap_ge _ _ _ _
  · have hb : l[j]? = some l[j] := List.getElem?_eq_getElem hj
    have hx := hl _ (List.getElem_mem hj)
    have hgd : l.getD j 0 = l[j] := by rw [List.getD_eq_getElem?_getD, hb]; rfl
    rw [hgd]
    have hc : w.drew.heap.size = w.heap.size := rfl
    rw [show ((⟨w.heap.size, 0, none⟩ : Addr).add j) = ⟨w.heap.size, j, none⟩ from add_head _ _]
    refine (cell_of_row _ _ _ _ _ _ (heap_alloc_new w.drew _)).trans ?_
    simp only [bytesRow, strOf, List.map_toArray, List.map_map]
    rw [Array.getElem?_append_left (by simpa using hj)]
    simp only [List.getElem?_toArray, List.getElem?_map, hb, Option.map_some, Function.comp_apply]
    congr 2
    have : (UInt8.ofNat l[j]).toNat = l[j] := by simp; omega
    rw [this]

set_option maxRecDepth 100000 in
theorem run_cvn (w : World) (l : List Nat) (hl : ∀ x ∈ l, x < 256) : ∃ (A : Option Addr) (c : Nat) (W : World), (convert 9 46 (.string (strOf l))).run Try.prog w = .ok (.slice A l.length c) W ∧ l.length ≤ c ∧ (A = none → c = 0) ∧
    RB W (fun b => w.heap.size ≤ b) A l.length l ∧ Below w.heap.size w W := by
  obtain ⟨c, o, h1, h2, h3⟩ := run_cvb w l hl
  exact ⟨_, c, _, h2, h1, (fun h => by cases h), h3, ((Below.refl _ _).drew).alloc (Nat.le_refl _) _⟩
end Go.Proofs.Ytcajidlekfkjlaa
