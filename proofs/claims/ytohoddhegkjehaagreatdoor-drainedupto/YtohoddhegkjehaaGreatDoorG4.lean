import Derived.Test.YtohoddhegkjehaaGreatDoorG3
/-
  What a connection tells of itself: listens, reads, isDone; putAside.
-/
namespace Go.Proofs.YtohoddhegkjehaaGreatDoor
open Go.RowKit Go.MapKept

set_option maxHeartbeats 400000 in
theorem restingListens (w : World) : Calls Tryz.prog 100 #[.agg #[]] w fun e w' => e = .returned (.bool true) ∧ Same w w' := by
  go_enter Tryz.func100, Tryz.ntmps100
  go_wp2
  go_ret
  exact ⟨rfl, by first | exact Upd.refl _ w | exact (Upd.refl _ w).alloc _⟩
set_option maxHeartbeats 400000 in
theorem readingListens (r : Nat) (w : World) : Calls Tryz.prog 177 #[.agg #[.pointer (some ⟨r, 0, none⟩)]] w fun e w' => e = .returned (.bool true) ∧ Same w w' := by
  go_enter Tryz.func177, Tryz.ntmps177
  go_wp2
  go_ret
  exact ⟨rfl, by first | exact Upd.refl _ w | exact (Upd.refl _ w).alloc _⟩
set_option maxHeartbeats 400000 in
theorem leavingListens (w : World) : Calls Tryz.prog 172 #[.agg #[]] w fun e w' => e = .returned (.bool false) ∧ Same w w' := by
  go_enter Tryz.func172, Tryz.ntmps172
  go_wp2
  go_ret
  exact ⟨rfl, by first | exact Upd.refl _ w | exact (Upd.refl _ w).alloc _⟩

/-- listens, called through the interface. -/
def Lst (dv : Value) (q : Bool) : Prop := ∃ ty rv f, dv = .iface ty rv ∧ (∀ W : World, (method 321 ty rv "hearth/hearth.listens").run Tryz.prog W = .ok (f, rv) W) ∧ Ent f ∧ ∀ W, Calls Tryz.prog f #[rv] W fun e w' => e = .returned (.bool q) ∧ Same W w'

theorem listens_calls {F : Nat → Prop} {w : World} {c : Nat} {x : CX} {dv uv ov : Value} (h : Cn F w c x dv uv ov) : Lst dv (decide (x.kind ≠ 2)) := by
  rcases h.doing with ⟨h1, rfl⟩ | ⟨h1, h2, h3, r, Fr, rfl, h5, h6⟩ | ⟨h1, rfl⟩
  · rw [h1]
    exact ⟨_, _, 100, rfl, fun W => by kernel_rfl, enters_of Tryz.func100 (by kernel_rfl) rfl, restingListens⟩
  · rw [h1]
    exact ⟨_, _, 177, rfl, fun W => by kernel_rfl, enters_of Tryz.func177 (by kernel_rfl) rfl, readingListens r⟩
  · rw [h1]
    exact ⟨_, _, 172, rfl, fun W => by kernel_rfl, enters_of Tryz.func172 (by kernel_rfl) rfl, leavingListens⟩

theorem Cn.quOut {F : Nat → Prop} {w : World} {c : Nat} {x : CX} {dv uv ov : Value} (h : Cn F w c x dv uv ov) : Qu w c 2 #[dv, uv, ov] 63 ov x.out := ⟨h.blk, rfl, h.ro, by decide⟩
theorem Cn.quUn {F : Nat → Prop} {w : World} {c : Nat} {x : CX} {dv uv ov : Value} (h : Cn F w c x dv uv ov) : Qu w c 1 #[dv, uv, ov] 63 uv x.unread := ⟨h.blk, rfl, h.ru, by decide⟩

set_option maxHeartbeats 800000 in
set_option maxRecDepth 100000 in
theorem reads_any {F : Nat → Prop} {w : World} {c : Nat} {x : CX} {dv uv ov : Value} (h : Hid (Cn F w c x dv uv ov)) (hl : x.out.length ≤ 1000000) :
    Calls Tryz.prog 44 #[.pointer (some ⟨c, 0, none⟩)] w fun e w' => e = .returned (.bool (decide (x.kind ≠ 2 ∧ x.out.length < 250))) ∧ Same w w' := by
  obtain ⟨c0, c1, c2, f0, f1, f2⟩ := h.out.blk'
  obtain ⟨ty, rv, f, rfl, hm, hent, hc⟩ := listens_calls h.out
  have HC := hid hc
  clear hc
  cases hq : decide (x.kind ≠ 2)
  · have hk : x.kind = 2 := by simpa using hq
    rw [hq] at HC
    have HR : Hid (decide (x.kind ≠ 2 ∧ x.out.length < 250) = false) := by show _ = _; simp [hk]
    clear hq hk
    rw [HR.out]
    go_enter Tryz.func44, Tryz.ntmps44
    go_wp2_with fail
    refine (HC.out w).mono ?_
    rintro e w1 ⟨rfl, hu⟩
    have HU := hid hu
    clear hu
    go_wp2
    go_ret
    exact ⟨rfl, HU.out⟩
  · have hk : x.kind ≠ 2 := by simpa using hq
    rw [hq] at HC
    have HR : Hid (decide (x.kind ≠ 2 ∧ x.out.length < 250) = !decide (250 ≤ x.out.length)) := by
      show _ = _
      by_cases h2 : 250 ≤ x.out.length
      · simp [h2, Nat.not_lt.2 h2]
      · simp [h2, hk]; omega
    clear hq hk
    rw [HR.out]
    go_enter Tryz.func44, Tryz.ntmps44
    go_wp2_with fail
    refine (HC.out w).mono ?_
    rintro e w1 ⟨rfl, hu⟩
    have H1 := hid (h.out.keep hu (fun _ _ h => h)).quOut
    have HU := hid hu
    clear hu
    go_wp2_with fail
    refine (isFull_any H1 hl).mono ?_
    rintro e w2 ⟨rfl, hu⟩
    have HU2 := hid (HU.out.trans hu)
    clear hu
    go_wp2
    go_ret
    exact ⟨rfl, HU2.out⟩

set_option maxHeartbeats 800000 in
set_option maxRecDepth 100000 in
theorem isDone_any {F : Nat → Prop} {w : World} {c : Nat} {x : CX} {dv uv ov : Value} (h : Hid (Cn F w c x dv uv ov)) :
    Calls Tryz.prog 35 #[.pointer (some ⟨c, 0, none⟩)] w fun e w' => e = .returned (.bool (decide (x.kind = 2 ∧ x.out = []))) ∧ Same w w' := by
  obtain ⟨c0, c1, c2, f0, f1, f2⟩ := h.out.blk'
  obtain ⟨ty, rv, f, rfl, hm, hent, hc⟩ := listens_calls h.out
  have HC := hid hc
  clear hc
  cases hq : decide (x.kind ≠ 2)
  · have hk : x.kind = 2 := by simpa using hq
    rw [hq] at HC
    have HR : Hid (decide (x.kind = 2 ∧ x.out = []) = decide ((x.out.length : Int) = 0)) := by show _ = _; simp [hk]
    clear hq hk
    rw [HR.out]
    go_enter Tryz.func35, Tryz.ntmps35
    go_wp2_with fail
    refine (HC.out w).mono ?_
    rintro e w1 ⟨rfl, hu⟩
    have H1 := hid (h.out.keep hu (fun _ _ h => h)).quOut
    have HU := hid hu
    clear hu
    go_wp2_with fail
    refine (qsize_any H1).mono ?_
    rintro e w2 ⟨rfl, hu⟩
    have HU2 := hid (HU.out.trans hu)
    clear hu
    go_wp2
    go_ret
    exact ⟨by first | rfl | (refine ret_bool ?_; simp), HU2.out⟩
  · have hk : x.kind ≠ 2 := by simpa using hq
    rw [hq] at HC
    have HR : Hid (decide (x.kind = 2 ∧ x.out = []) = false) := by show _ = _; simp [hk]
    clear hq hk
    rw [HR.out]
    go_enter Tryz.func35, Tryz.ntmps35
    go_wp2_with fail
    refine (HC.out w).mono ?_
    rintro e w1 ⟨rfl, hu⟩
    have HU := hid hu
    clear hu
    go_wp2
    go_ret
    exact ⟨rfl, HU.out⟩

/-- What a method of the connection leaves: the connection in the state x', nothing else changed but in its own blocks. -/
def ConnX (F : Nat → Prop) (w w' : World) (c : Nat) (x' : CX) : Prop :=
  ∃ F' dv' uv' ov', Cn F' w' c x' dv' uv' ov' ∧ Upd F w w' ∧ (∀ k, F' k → F k ∨ (w.heap.size ≤ k ∧ k < w'.heap.size))

theorem ConnX.after {F : Nat → Prop} {w w1 w2 : World} {c : Nat} {x : CX} (hu : Same w w1) (h : ConnX F w1 w2 c x) : ConnX F w w2 c x := by
  obtain ⟨F', dv, uv, ov, h1, h2, h3⟩ := h
  refine ⟨F', dv, uv, ov, h1, (hu.mono (fun _ _ h => h.elim)).trans h2, fun k hk => ?_⟩
  rcases h3 k hk with h4 | h4
  · exact Or.inl h4
  · have := hu.size; right; omega

/-- 'out' is changed. -/
theorem out_at {F : Nat → Prop} {w w1 : World} {c : Nat} {x : CX} {dv uv ov : Value} {bs : List UInt8} (h : Cn F w c x dv uv ov) (hq : QAt w w1 c 2 #[dv, uv, ov] 63 ov bs) :
    ConnX F w w1 c { x with out := bs } := by
  obtain ⟨v', hr, hb1, U, ho⟩ := hq
  have hoc : ov.ownBlock ≠ some c := h.ro.far h.blk (by decide)
  have hMF : ∀ k, (k = c ∨ ov.ownBlock = some k) → F k := by
    rintro k (rfl | h1)
    · exact h.fc
    · exact h.fo k h1
  have hsz := U.size
  refine ⟨fun k => F k ∨ (w.heap.size ≤ k ∧ k < w1.heap.size), dv, uv, v', ⟨by simpa using hb1, ?_, hr, ?_, Or.inl h.fc, fun k hk => Or.inl (h.fu k hk), ?_, ?_, ?_⟩, U.mono (fun k _ e => hMF k e), fun k hk => hk⟩
  · refine h.ru.keep U ?_
    rintro k hk (rfl | h1)
    · exact h.ru.far h.blk (by decide) hk
    · exact h.sep k hk h1
  · intro k hk h1
    rcases ho k h1 with h2 | h2
    · exact h.sep k hk h2
    · have := h.ru.lt k hk; omega
  · intro k hk
    rcases ho k hk with h2 | h2
    · exact Or.inl (h.fo k h2)
    · exact Or.inr h2
  · rintro k (hk | hk)
    · have := h.lt k hk; omega
    · exact hk.2
  · rcases h.doing with h1 | ⟨h1, h2, h3, r, Fr, h4, h5, h6⟩ | h1
    · exact Or.inl h1
    · refine Or.inr (Or.inl ⟨h1, h2, h3, r, Fr, h4, h5.keep U (fun k hk e => by rcases e with e | e; exact (h6 k hk).2.1 e; exact (h6 k hk).2.2.2 e), fun k hk => ⟨Or.inl (h6 k hk).1, (h6 k hk).2.1, (h6 k hk).2.2.1, fun e => ?_⟩⟩)
      rcases ho k e with h7 | h7
      · exact (h6 k hk).2.2.2 h7
      · have := h.lt k (h6 k hk).1; omega
    · exact Or.inr (Or.inr h1)

/-- 'unread' is changed. -/
theorem unread_at {F : Nat → Prop} {w w1 : World} {c : Nat} {x : CX} {dv uv ov : Value} {bs : List UInt8} (h : Cn F w c x dv uv ov) (hq : QAt w w1 c 1 #[dv, uv, ov] 63 uv bs) :
    ConnX F w w1 c { x with unread := bs } := by
  obtain ⟨v', hr, hb1, U, ho⟩ := hq
  have hMF : ∀ k, (k = c ∨ uv.ownBlock = some k) → F k := by
    rintro k (rfl | h1)
    · exact h.fc
    · exact h.fu k h1
  have hsz := U.size
  refine ⟨fun k => F k ∨ (w.heap.size ≤ k ∧ k < w1.heap.size), dv, v', ov, ⟨by simpa using hb1, hr, ?_, ?_, Or.inl h.fc, ?_, fun k hk => Or.inl (h.fo k hk), ?_, ?_⟩, U.mono (fun k _ e => hMF k e), fun k hk => hk⟩
  · refine h.ro.keep U ?_
    rintro k hk (rfl | h1)
    · exact h.ro.far h.blk (by decide) hk
    · exact h.sep k h1 hk
  · intro k hk h1
    rcases ho k hk with h2 | h2
    · exact h.sep k h2 h1
    · have := h.ro.lt k h1; omega
  · intro k hk
    rcases ho k hk with h2 | h2
    · exact Or.inl (h.fu k h2)
    · exact Or.inr h2
  · rintro k (hk | hk)
    · have := h.lt k hk; omega
    · exact hk.2
  · rcases h.doing with h1 | ⟨h1, h2, h3, r, Fr, h4, h5, h6⟩ | h1
    · exact Or.inl h1
    · refine Or.inr (Or.inl ⟨h1, h2, h3, r, Fr, h4, h5.keep U (fun k hk e => by rcases e with e | e; exact (h6 k hk).2.1 e; exact (h6 k hk).2.2.1 e), fun k hk => ⟨Or.inl (h6 k hk).1, (h6 k hk).2.1, fun e => ?_, (h6 k hk).2.2.2⟩⟩)
      rcases ho k e with h7 | h7
      · exact (h6 k hk).2.2.1 h7
      · have := h.lt k (h6 k hk).1; omega
    · exact Or.inr (Or.inr h1)

set_option maxHeartbeats 800000 in
set_option maxRecDepth 100000 in
theorem putAside_any {F : Nat → Prop} {w : World} {c : Nat} {x : CX} {dv uv ov : Value} (h : Hid (Cn F w c x dv uv ov)) (hl : x.unread.length ≤ 300) (l : ByteArray) (hb : l.size ≤ 4000000) :
    Calls Tryz.prog 46 #[.pointer (some ⟨c, 0, none⟩), .string l] w fun e w' => e = .returned (.int .i64 (if x.kind = 2 then 0 else min l.data.toList.length (300 - x.unread.length) : Nat)) ∧ ConnX F w w' c (if x.kind = 2 then x else { x with unread := x.unread ++ l.data.toList.take (300 - x.unread.length) }) := by
  obtain ⟨c0, c1, c2, f0, f1, f2⟩ := h.out.blk'
  obtain ⟨ty, rv, f, rfl, hm, hent, hc⟩ := listens_calls h.out
  have HC := hid hc
  clear hc
  cases hq : decide (x.kind ≠ 2)
  · have hk : x.kind = 2 := by simpa using hq
    rw [hq] at HC
    rw [if_pos hk, if_pos hk]
    clear hq hk
    go_enter Tryz.func46, Tryz.ntmps46
    go_wp2_with fail
    refine (HC.out w).mono ?_
    rintro e w1 ⟨rfl, hu⟩
    have HE : Hid (ConnX F w w1 c x) := ⟨F, _, _, _, h.out.keep hu (fun _ _ h => h), hu.mono (fun _ _ h => h.elim), fun k hk => Or.inl hk⟩
    clear hu
    go_wp2
    go_ret
    exact ⟨rfl, HE.out⟩
  · have hk : x.kind ≠ 2 := by simpa using hq
    rw [hq] at HC
    rw [if_neg hk, if_neg hk]
    clear hq hk
    go_enter Tryz.func46, Tryz.ntmps46
    go_wp2_with fail
    refine (HC.out w).mono ?_
    rintro e w1 ⟨rfl, hu⟩
    have h1 := h.out.keep hu (fun _ _ h => h)
    have H1 := hid h1
    have HU := hid hu
    clear hu h1
    go_wp2_with fail
    refine (admit_any (hid H1.out.quUn) hl l hb).mono ?_
    rintro e w2 ⟨rfl, hq⟩
    have HE := hid (ConnX.after HU.out (unread_at H1.out hq))
    clear hq
    go_wp2
    go_ret
    exact ⟨rfl, HE.out⟩

end Go.Proofs.YtohoddhegkjehaaGreatDoor
