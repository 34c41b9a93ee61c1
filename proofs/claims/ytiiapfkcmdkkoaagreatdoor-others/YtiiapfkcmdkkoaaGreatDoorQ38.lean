import Derived.Test.YtiiapfkcmdkkoaaGreatDoorQ37
import Derived.Test.YtiiapfkcmdkkoaaGreatDoorQ08
/-
  The document's own reader on lists: what its pen does with bytes that are as they should be, with one that is not, and at the end.
-/
namespace Go.Proofs.YtiiapfkcmdkkoaaGreatDoor
open Go.RowKit

def bl (l : List UInt8) : ByteArray := ⟨l.toArray⟩
def pn (l : List UInt8) (i : Nat) : Pn := ⟨bl l, i, false, false⟩
theorem bl_list (l : List UInt8) : (bl l).data.toList = l := by simp [bl]
theorem bl_size (l : List UInt8) : (bl l).size = l.length := by rw [← size_list, bl_list]
theorem pn_on (l : List UInt8) (i : Nat) : (pn l i).on = true := rfl

theorem span_stop (f : UInt8 → Bool) : ∀ (r : List UInt8) (n : Nat) (c : UInt8) (t : List UInt8), (∀ x ∈ r, f x = true) → r.length ≤ n → (f c = false ∨ n ≤ r.length) → spanLen f n (r ++ c :: t) = r.length
  | [], 0, _, _, _, _, _ => rfl
  | [], n + 1, c, t, _, _, h => by
    rcases h with h | h
    · simp [spanLen, h]
    · simp at h
  | x :: r, 0, _, _, _, h, _ => by simp at h
  | x :: r, n + 1, c, t, hx, hl, h => by
    simp only [List.cons_append, spanLen, List.length_cons]
    rw [if_pos (hx x (by simp)), span_stop f r n c t (fun y hy => hx y (by simp [hy])) (by simpa using hl) (by rcases h with h | h; exact Or.inl h; right; simpa using h)]
theorem span_all (f : UInt8 → Bool) : ∀ (r : List UInt8) (n : Nat), (∀ x ∈ r, f x = true) → r.length ≤ n → spanLen f n r = r.length
  | [], 0, _, _ => rfl
  | [], _ + 1, _, _ => rfl
  | x :: r, 0, _, h => by simp at h
  | x :: r, n + 1, hx, hl => by
    simp only [spanLen, List.length_cons]
    rw [if_pos (hx x (by simp)), span_all f r n (fun y hy => hx y (by simp [hy])) (by simpa using hl)]

theorem drop_len {l a : List UInt8} {i : Nat} (h : l.drop i = a) : l.length - i = a.length := by rw [← h, List.length_drop]

theorem row_stop {l r t : List UInt8} {i : Nat} {c : UInt8} (hd : l.drop i = r ++ c :: t) (kind : Int) (least most : Nat) (hr : ∀ x ∈ r, inK kind x = true) (hm : r.length ≤ most) (hc : inK kind c = false ∨ most ≤ r.length) :
    (pn l i).rowP kind least most = ⟨bl l, i + r.length, false, decide (r.length < least)⟩ ∧ (pn l i).rowS kind most = r := by
  have hs : (pn l i).span kind most = r.length := by
    show spanLen (inK kind) most ((bl l).data.toList.drop i) = _
    rw [bl_list, hd]
    exact span_stop _ r most c t hr hm hc
  have hl := drop_len hd
  simp only [List.length_append, List.length_cons] at hl
  have hsz : ¬ (pn l i).s.size ≤ (pn l i).i + (pn l i).span kind most := by
    rw [hs]; show ¬ (bl l).size ≤ i + r.length
    rw [bl_size]; omega
  constructor
  · unfold Pn.rowP
    rw [if_pos (pn_on l i), if_neg hsz, hs]
    rfl
  · unfold Pn.rowS
    rw [if_pos (pn_on l i), if_neg hsz, hs]
    show ((bl l).data.toList.drop i).take r.length = r
    rw [bl_list, hd]
    simp
theorem row_end {l r : List UInt8} {i : Nat} (hd : l.drop i = r) (kind : Int) (least most : Nat) (hr : ∀ x ∈ r, inK kind x = true) (hm : r.length ≤ most) :
    (pn l i).rowP kind least most = ⟨bl l, i + r.length, true, false⟩ := by
  have hs : (pn l i).span kind most = r.length := by
    show spanLen (inK kind) most ((bl l).data.toList.drop i) = _
    rw [bl_list, hd]
    exact span_all _ r most hr hm
  have hl := drop_len hd
  have hsz : (pn l i).s.size ≤ (pn l i).i + (pn l i).span kind most := by
    rw [hs]; show (bl l).size ≤ i + r.length
    rw [bl_size]; omega
  unfold Pn.rowP
  rw [if_pos (pn_on l i), if_pos hsz, hs]
  rfl

theorem ex1_hit {l t : List UInt8} {i : Nat} {c : UInt8} (hd : l.drop i = c :: t) : (pn l i).exact1 c = pn l (i + 1) ∧ l.drop (i + 1) = t := by
  have hl := drop_len hd
  simp only [List.length_cons] at hl
  have hg : l[i]? = some c := by
    have : (l.drop i)[0]? = some c := by rw [hd]; rfl
    simpa using this
  refine ⟨?_, ?_⟩
  · unfold Pn.exact1
    rw [if_pos (pn_on l i), if_pos (by show i < (bl l).size; rw [bl_size]; omega), if_pos (by show (bl l).data.toList[i]? = _; rw [bl_list]; exact hg)]
    rfl
  · have : (l.drop i).drop 1 = t := by rw [hd]; rfl
    rwa [List.drop_drop] at this
theorem ex1_miss {l t : List UInt8} {i : Nat} {b c : UInt8} (hd : l.drop i = b :: t) (h : b ≠ c) : (pn l i).exact1 c = ⟨bl l, i, false, true⟩ := by
  have hl := drop_len hd
  simp only [List.length_cons] at hl
  have hg : l[i]? = some b := by
    have : (l.drop i)[0]? = some b := by rw [hd]; rfl
    simpa using this
  unfold Pn.exact1
  rw [if_pos (pn_on l i), if_pos (by show i < (bl l).size; rw [bl_size]; omega), if_neg (by show ¬ (bl l).data.toList[i]? = _; rw [bl_list, hg]; intro e; exact h (Option.some.inj e))]
  rfl
theorem ex1_over {l : List UInt8} {i : Nat} {c : UInt8} (hd : l.drop i = []) : (pn l i).exact1 c = ⟨bl l, i, true, false⟩ := by
  have hl := drop_len hd
  simp only [List.length_nil] at hl
  unfold Pn.exact1
  rw [if_pos (pn_on l i), if_neg (by show ¬ i < (bl l).size; rw [bl_size]; omega)]
  rfl

theorem ex_done : ∀ (e : List UInt8) {l t : List UInt8} {i : Nat}, l.drop i = e ++ t → (pn l i).exact e = pn l (i + e.length) ∧ l.drop (i + e.length) = t
  | [], l, t, i, h => ⟨rfl, h⟩
  | c :: e, l, t, i, h => by
    obtain ⟨h1, h2⟩ := ex1_hit (c := c) (t := e ++ t) h
    obtain ⟨h3, h4⟩ := ex_done e h2
    have ea : i + (c :: e).length = i + 1 + e.length := by simp only [List.length_cons]; omega
    rw [ea]
    refine ⟨?_, h4⟩
    show ((pn l i).exact1 c).exact e = _
    rw [h1, h3]
theorem ex_app (e1 e2 : List UInt8) (p : Pn) : p.exact (e1 ++ e2) = (p.exact e1).exact e2 := by simp [Pn.exact, List.foldl_append]
theorem ex_bad (e1 e2 : List UInt8) {l t : List UInt8} {i : Nat} {b c : UInt8} (hd : l.drop i = e1 ++ b :: t) (h : b ≠ c) : (pn l i).exact (e1 ++ c :: e2) = ⟨bl l, i + e1.length, false, true⟩ := by
  obtain ⟨h1, h2⟩ := ex_done e1 hd
  rw [ex_app, h1]
  show ((pn l (i + e1.length)).exact1 c).exact e2 = _
  rw [ex1_miss h2 h]
  exact exact_off _ _ rfl
theorem ex_more (e1 e2 : List UInt8) {l : List UInt8} {i : Nat} {c : UInt8} (hd : l.drop i = e1) : (pn l i).exact (e1 ++ c :: e2) = ⟨bl l, i + e1.length, true, false⟩ := by
  obtain ⟨h1, h2⟩ := ex_done e1 (t := []) (by rw [hd, List.append_nil])
  rw [ex_app, h1]
  show ((pn l (i + e1.length)).exact1 c).exact e2 = _
  rw [ex1_over h2]
  exact exact_off _ _ rfl

/-- A row, and what ends it. -/
def Pn.rx (p : Pn) (kind : Int) (least most : Nat) (e : List UInt8) : Pn := (p.rowP kind least most).exact e

theorem split_at {e : List UInt8} {m : Nat} (h : m < e.length) : e = e.take m ++ e[m] :: e.drop (m + 1) := by
  conv => lhs; rw [← List.take_append_drop m e]
  congr 1
  exact List.drop_eq_getElem_cons h

theorem drop_add {l r t : List UInt8} {i : Nat} (h : l.drop i = r ++ t) : l.drop (i + r.length) = t := by
  rw [← List.drop_drop, h]; simp

theorem rx_done {l r t : List UInt8} {i : Nat} {c : UInt8} {e : List UInt8} (kind : Int) (least most : Nat) (hd : l.drop i = r ++ (c :: e) ++ t) (hr : ∀ x ∈ r, inK kind x = true) (hm : r.length ≤ most) (hl : least ≤ r.length) (hc : inK kind c = false) :
    (pn l i).rx kind least most (c :: e) = pn l (i + (r.length + (c :: e).length)) ∧ (pn l i).rowS kind most = r := by
  rw [List.append_assoc] at hd
  obtain ⟨h1, h2⟩ := row_stop hd kind least most hr hm (Or.inl hc)
  refine ⟨?_, h2⟩
  unfold Pn.rx
  rw [h1, decide_eq_false (by omega)]
  have := (ex_done (c :: e) (drop_add hd)).1
  rw [Nat.add_assoc] at this
  exact this
theorem rx_least {l r t : List UInt8} {i : Nat} {b : UInt8} (kind : Int) (least most : Nat) (e : List UInt8) (hd : l.drop i = r ++ b :: t) (hr : ∀ x ∈ r, inK kind x = true) (hm : r.length ≤ most) (hl : r.length < least) (hc : inK kind b = false ∨ most ≤ r.length) :
    ((pn l i).rx kind least most e).bad = true := by
  obtain ⟨h1, _⟩ := row_stop hd kind least most hr hm hc
  unfold Pn.rx
  rw [h1, decide_eq_true hl, exact_off _ _ rfl]
theorem rx_bad {l r t : List UInt8} {i m : Nat} {b : UInt8} (kind : Int) (least most : Nat) (e : List UInt8) (hd : l.drop i = r ++ e.take m ++ b :: t) (hr : ∀ x ∈ r, inK kind x = true) (hm : r.length ≤ most) (hl : least ≤ r.length) (he : ∀ c, e[0]? = some c → inK kind c = false) (hc : m = 0 → inK kind b = false ∨ most ≤ r.length) (hlt : m < e.length) (hne : ¬ e[m]? = some b) :
    ((pn l i).rx kind least most e).bad = true ∧ ((pn l i).rx kind least most e).i = i + (r.length + m) := by
  have hb : b ≠ e[m] := fun h => hne (by rw [List.getElem?_eq_getElem hlt, h])
  have hrow : (pn l i).rowP kind least most = pn l (i + r.length) := by
    by_cases h0 : m = 0
    · subst h0
      rw [List.take_zero, List.append_nil] at hd
      rw [(row_stop hd kind least most hr hm (hc rfl)).1, decide_eq_false (by omega)]; rfl
    · obtain ⟨c, e', rfl⟩ : ∃ c e', e = c :: e' := by
        cases e with
        | nil => simp at hlt
        | cons c e' => exact ⟨c, e', rfl⟩
      have hd2 : l.drop i = r ++ c :: (e'.take (m - 1) ++ b :: t) := by
        rw [hd]
        obtain ⟨m', rfl⟩ : ∃ m', m = m' + 1 := ⟨m - 1, by omega⟩
        simp
      rw [(row_stop hd2 kind least most hr hm (Or.inl (he c rfl))).1, decide_eq_false (by omega)]; rfl
  have hd3 : l.drop (i + r.length) = e.take m ++ b :: t := drop_add (by rw [hd, List.append_assoc])
  unfold Pn.rx
  rw [hrow]
  have h2 := ex_bad (e.take m) (e.drop (m + 1)) hd3 hb
  rw [← split_at hlt] at h2
  rw [h2]
  refine ⟨rfl, ?_⟩
  show i + r.length + (e.take m).length = _
  rw [List.length_take]; omega
theorem rx_more {l r : List UInt8} {i m : Nat} (kind : Int) (least most : Nat) (e : List UInt8) (hd : l.drop i = r ++ e.take m) (hr : ∀ x ∈ r, inK kind x = true) (hm : r.length ≤ most) (he : ∀ c, e[0]? = some c → inK kind c = false) (hl : m = 0 ∨ least ≤ r.length) (hlt : m < e.length) :
    ((pn l i).rx kind least most e).on = false := by
  by_cases h0 : m = 0
  · subst h0
    rw [List.take_zero, List.append_nil] at hd
    unfold Pn.rx
    rw [row_end hd kind least most hr hm, exact_off _ _ rfl]
    rfl
  · obtain ⟨c, e', rfl⟩ : ∃ c e', e = c :: e' := by
      cases e with
      | nil => simp at hlt
      | cons c e' => exact ⟨c, e', rfl⟩
    have hd2 : l.drop i = r ++ c :: e'.take (m - 1) := by
      rw [hd]
      obtain ⟨m', rfl⟩ : ∃ m', m = m' + 1 := ⟨m - 1, by omega⟩
      simp
    have hd3 : l.drop (i + r.length) = (c :: e').take m := drop_add hd
    have h2 := ex_more ((c :: e').take m) ((c :: e').drop (m + 1)) (c := (c :: e')[m]) hd3
    rw [← split_at hlt] at h2
    unfold Pn.rx
    rw [(row_stop hd2 kind least most hr hm (Or.inl (he c rfl))).1, decide_eq_false (by rcases hl with h | h <;> omega)]
    show ((pn l (i + r.length)).exact (c :: e')).on = false
    rw [h2]
    rfl
theorem rx_off (p : Pn) (kind : Int) (least most : Nat) (e : List UInt8) (h : p.on = false) : p.rx kind least most e = p := by
  unfold Pn.rx Pn.rowP
  rw [if_neg (by rw [h]; decide)]
  exact exact_off _ _ h
theorem off_bad {p : Pn} (h : p.bad = true) : p.on = false := by unfold Pn.on; rw [h]; simp

end Go.Proofs.YtiiapfkcmdkkoaaGreatDoor

/-
  What fields say of a body, by the program's reader and by the document's.
-/
namespace Go.Proofs.YtiiapfkcmdkkoaaGreatDoor
open Go.RowKit

theorem smallC_nat (x : UInt8) : (smallC x).toNat = if 65 ≤ x.toNat ∧ x.toNat ≤ 90 then x.toNat + 32 else x.toNat := by
  have hx := x.toNat_lt
  unfold smallC
  have e : isCapB x.toNat = decide (65 ≤ x.toNat ∧ x.toNat ≤ 90) := by
    rw [Bool.eq_iff_iff]
    simp [isCapB]
    omega
  rw [e]
  by_cases h : 65 ≤ x.toNat ∧ x.toNat ≤ 90
  · rw [if_pos (by simpa using h), if_pos h, UInt8.toNat_add]
    show (x.toNat + 32) % 256 = _
    omega
  · rw [if_neg (by simpa using h), if_neg h]
theorem foldEq_small (x y : UInt8) : Lib.foldEq x y = decide (smallC x = smallC y) := by
  have hx := x.toNat_lt
  have hy := y.toNat_lt
  unfold Lib.foldEq
  rw [decide_eq_decide]
  rw [← UInt8.toNat_inj, smallC_nat, smallC_nat]
  split <;> split <;> omega
theorem equalFold_small : ∀ s t : List UInt8, Lib.equalFold s t = decide (smallL s = smallL t)
  | [], [] => by simp [Lib.equalFold]
  | [], y :: t => by simp [Lib.equalFold, smallL]
  | x :: s, [] => by simp [Lib.equalFold, smallL]
  | x :: s, y :: t => by
    simp only [Lib.equalFold, equalFold_small s t, foldEq_small, smallL, List.map_cons, List.cons.injEq]
    rw [Bool.eq_iff_iff]
    simp
    intro _
    exact decide_eq_true_iff

theorem rtrim_rev (l : List UInt8) : rtrim l = (l.reverse.dropWhile isSp).reverse := by
  have : ∀ m : List UInt8, rtrim m.reverse = (m.dropWhile isSp).reverse := by
    intro m
    induction m with
    | nil => rfl
    | cons c m ih =>
      rw [List.reverse_cons, rtrim_snoc, ih, List.dropWhile_cons]
      split <;> simp
  have h := this l.reverse
  rwa [List.reverse_reverse] at h
theorem rtrim_drop : ∀ l : List UInt8, (rtrim l).dropWhile isSp = rtrim (l.dropWhile isSp)
  | [] => rfl
  | c :: l => by
    by_cases ha : (c :: l).all isSp = true
    · have e : ∀ m : List UInt8, m.all isSp = true → m.dropWhile isSp = [] := by
        intro m
        induction m with
        | nil => intro _; rfl
        | cons d m ih => intro h; simp only [List.all_cons, Bool.and_eq_true] at h; rw [List.dropWhile_cons, if_pos h.1, ih h.2]
      rw [e _ ha]
      simp only [rtrim]
      rw [if_pos ha]; rfl
    · have e : rtrim (c :: l) = c :: rtrim l := by simp only [rtrim]; rw [if_neg ha]
      rw [e, List.dropWhile_cons, List.dropWhile_cons]
      by_cases hc : isSp c = true
      · rw [if_pos hc, if_pos hc, rtrim_drop l]
      · rw [if_neg hc, if_neg hc, e]
theorem contains_sp (c : UInt8) : ([32, 9] : List UInt8).contains c = isSp c := by
  have hx := c.toNat_lt
  unfold isSp
  by_cases h1 : c = 32
  · subst h1; decide
  · by_cases h2 : c = 9
    · subst h2; decide
    · have e1 : ¬ c.toNat = 32 := fun h => h1 (UInt8.toNat_inj.1 h)
      have e2 : ¬ c.toNat = 9 := fun h => h2 (UInt8.toNat_inj.1 h)
      rw [decide_eq_false (by omega), decide_eq_false (by omega)]
      simp [h1, h2]
theorem trim_same (l : List UInt8) : trimL l = trimR l := by
  have e : (fun c => ([32, 9] : List UInt8).contains c) = isSp := funext contains_sp
  unfold trimL Lib.trimS Lib.trimLeftS Lib.trimRightS trimR
  rw [e, ← rtrim_rev, rtrim_drop]

/-- What fields have said: kind 0 nothing, 1 a length, 2 chunks, 3 nothing that is clear. -/
def Says (k n : Nat) (lens cods : List (List UInt8)) : Prop :=
  (k = 0 ∧ n = 0 ∧ lens = [] ∧ cods = []) ∨ (k = 1 ∧ cods = [] ∧ ∃ v, lens = [v] ∧ lenOf v = n) ∨ (k = 2 ∧ n = 0 ∧ lens = [] ∧ ∃ c, cods = [c] ∧ smallL c = chunkedL) ∨
  (k = 3 ∧ n = 0 ∧ (1 < lens.length + cods.length ∨ (cods = [] ∧ ∃ v, lens = [v] ∧ lenOf v = -1) ∨ (lens = [] ∧ ∃ c, cods = [c] ∧ smallL c ≠ chunkedL)))

section
variable {k n : Nat} {lens cods : List (List UInt8)}
theorem Says.some (h : Says k n lens cods) (hk : k ≠ 0) : 1 ≤ lens.length + cods.length := by
  rcases h with ⟨h, _⟩ | ⟨_, h1, v, h2, _⟩ | ⟨_, _, h1, c, h2, _⟩ | ⟨_, _, h | ⟨h1, v, h2, _⟩ | ⟨h1, c, h2, _⟩⟩
  · exact absurd h hk
  · rw [h1, h2]; simp
  · rw [h1, h2]; simp
  · omega
  · rw [h1, h2]; simp
  · rw [h1, h2]; simp
theorem Says.len (h : Says k n lens cods) (v : List UInt8) : Says (if k = 0 then (lengthSays v).1 else 3) (if k = 0 then (lengthSays v).2 else 0) (lens ++ [v]) cods := by
  by_cases hk : k = 0
  · rw [if_pos hk, if_pos hk]
    rcases h with ⟨_, _, h1, h2⟩ | ⟨h, _⟩ | ⟨h, _⟩ | ⟨h, _⟩
    · subst h1 h2
      unfold lengthSays
      by_cases g1 : v.length < 1 ∨ 9 < v.length
      · rw [if_pos g1]
        refine Or.inr (Or.inr (Or.inr ⟨rfl, rfl, Or.inr (Or.inl ⟨rfl, v, rfl, ?_⟩)⟩))
        unfold lenOf; rw [if_pos g1]
      · rw [if_neg g1]
        by_cases g2 : allDig v = true
        · rw [if_pos g2]
          refine Or.inr (Or.inl ⟨rfl, rfl, v, rfl, ?_⟩)
          unfold lenOf; rw [if_neg g1, if_pos g2]
        · rw [if_neg g2]
          refine Or.inr (Or.inr (Or.inr ⟨rfl, rfl, Or.inr (Or.inl ⟨rfl, v, rfl, ?_⟩)⟩))
          unfold lenOf; rw [if_neg g1, if_neg g2]
    all_goals omega
  · rw [if_neg hk, if_neg hk]
    have := h.some hk
    refine Or.inr (Or.inr (Or.inr ⟨rfl, rfl, Or.inl ?_⟩))
    simp; omega
theorem Says.cod (h : Says k n lens cods) (v : List UInt8) : Says (if k = 0 then (codingSays v).1 else 3) (if k = 0 then (codingSays v).2 else 0) lens (cods ++ [v]) := by
  by_cases hk : k = 0
  · rw [if_pos hk, if_pos hk]
    rcases h with ⟨_, _, h1, h2⟩ | ⟨h, _⟩ | ⟨h, _⟩ | ⟨h, _⟩
    · subst h1 h2
      unfold codingSays
      have e : smallL chunkedL = chunkedL := by decide
      rw [equalFold_small, e]
      by_cases g : smallL v = chunkedL
      · rw [if_pos (by simpa using g)]
        exact Or.inr (Or.inr (Or.inl ⟨rfl, rfl, rfl, v, rfl, g⟩))
      · rw [if_neg (by simpa using g)]
        exact Or.inr (Or.inr (Or.inr ⟨rfl, rfl, Or.inr (Or.inr ⟨rfl, v, rfl, g⟩)⟩))
    all_goals omega
  · rw [if_neg hk, if_neg hk]
    have := h.some hk
    refine Or.inr (Or.inr (Or.inr ⟨rfl, rfl, Or.inl ?_⟩))
    simp; omega
theorem Says.bad (h : Says 3 n lens cods) (p : Pn) (r : Rq) : bodyP p r lens cods = wrongR 400 := by
  rcases h with ⟨h, _⟩ | ⟨h, _⟩ | ⟨h, _⟩ | ⟨_, _, h | ⟨h1, v, h2, h3⟩ | ⟨h1, c, h2, h3⟩⟩
  · cases h
  · cases h
  · cases h
  · unfold bodyP; rw [if_pos h]
  · subst h1 h2
    unfold bodyP; rw [if_neg (by simp)]
    show countP p r (lenOf v) = _
    rw [h3]; rfl
  · subst h1 h2
    unfold bodyP; rw [if_neg (by simp)]
    show (if smallL c = chunkedL then chunksP (p.s.size + 1) p r else wrongR 400) = _
    rw [if_neg h3]
theorem Says.counted (h : Says k n lens cods) (hk : k = 0 ∨ k = 1) (p : Pn) (r : Rq) : bodyP p r lens cods = countP p r n := by
  rcases h with ⟨_, h, h1, h2⟩ | ⟨_, h1, v, h2, h3⟩ | ⟨h, _⟩ | ⟨h, _⟩
  · subst h h1 h2; rfl
  · subst h1 h2
    unfold bodyP; rw [if_neg (by simp)]
    show countP p r (lenOf v) = _
    rw [h3]
  · omega
  · omega
theorem Says.chunked (h : Says 2 n lens cods) (p : Pn) (r : Rq) : bodyP p r lens cods = chunksP (p.s.size + 1) p r := by
  rcases h with ⟨h, _⟩ | ⟨h, _⟩ | ⟨_, _, h1, c, h2, h3⟩ | ⟨h, _⟩
  · cases h
  · cases h
  · subst h1 h2
    unfold bodyP; rw [if_neg (by simp)]
    show (if smallL c = chunkedL then chunksP (p.s.size + 1) p r else wrongR 400) = _
    rw [if_pos h3]
  · cases h
theorem Says.kinds (h : Says k n lens cods) : k ≤ 3 := by
  rcases h with ⟨h, _⟩ | ⟨h, _⟩ | ⟨h, _⟩ | ⟨h, _⟩ <;> omega
end

theorem values_snoc (fs : List Fd) (f : Fd) (nm : List UInt8) : valuesP (fs ++ [f]) nm = if f.1 = nm then valuesP fs nm ++ [f.2] else valuesP fs nm := by
  unfold valuesP
  by_cases h : f.1 = nm
  · simp [List.filter_append, h]
  · have : (f.1 == nm) = false := by simpa using h
    simp [List.filter_append, h]

/-- What a reader has been told by fields. -/
def Told (fs : List Fd) (σ : RS) : Prop := Says σ.kind σ.length (valuesP fs clenL) (valuesP fs tencL)
theorem Told.field {fs : List Fd} {σ : RS} (h : Told fs σ) : Told (fs ++ [(smallL σ.name, trimR σ.value)]) σ.endField := by
  have e1 : smallL clName = clenL := by decide
  have e2 : smallL teName = tencL := by decide
  have e3 : ¬ clenL = tencL := by decide
  unfold Told
  rw [values_snoc, values_snoc]
  unfold RS.endField
  rw [equalFold_small, equalFold_small, e1, e2, ← trim_same]
  by_cases g1 : smallL σ.name = clenL
  · rw [if_pos (by simpa using g1), if_pos g1, if_neg (by rw [g1]; exact e3)]
    exact Says.len h _
  · rw [if_neg (by simpa using g1), if_neg g1]
    by_cases g2 : smallL σ.name = tencL
    · rw [if_pos (by simpa using g2), if_pos g2]
      exact Says.cod h _
    · rw [if_neg (by simpa using g2), if_neg g2]
      split <;> exact h

end Go.Proofs.YtiiapfkcmdkkoaaGreatDoor
