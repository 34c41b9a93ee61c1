import Derived.Test.YtkhlhokolfaieaaGreatDoorG2
/-
  What holds of the texts at all times; reading a byte, at any time.
-/
namespace Go.Proofs.YtkhlhokolfaieaaGreatDoor
open Go.RowKit Go.MapKept

theorem aidx_cons (p : List UInt8 × List UInt8) (L : Texts) (a : List UInt8) : aidx (p :: L) a = if p.1 == a then 0 else aidx L a + 1 := by
  unfold aidx
  rw [List.findIdx_cons]
  cases p.1 == a <;> rfl
theorem aget_cons (p : List UInt8 × List UInt8) (L : Texts) (a : List UInt8) : aget (p :: L) a = if p.1 == a then some p.2 else aget L a := by
  unfold aget
  rw [aidx_cons]
  cases p.1 == a <;> simp
theorem aput_cons (p : List UInt8 × List UInt8) (L : Texts) (a x : List UInt8) : aput (p :: L) a x = if p.1 == a then (a, x) :: L else p :: aput L a x := by
  unfold aput
  rw [aidx_cons]
  cases p.1 == a
  · simp only [Bool.false_eq_true, if_false, List.length_cons, Nat.add_lt_add_iff_right]
    split <;> simp
  · simp
theorem adel_cons (p : List UInt8 × List UInt8) (L : Texts) (a : List UInt8) : adel (p :: L) a = if p.1 == a then L else p :: adel L a := by
  unfold adel
  rw [aidx_cons]
  cases p.1 == a <;> simp

def total : Texts → Int
  | [] => 0
  | p :: L => (p.1.length : Int) + p.2.length + total L

theorem total_put : ∀ (L : Texts) (a x : List UInt8), total (aput L a x) = total L - takenOf L a + a.length + x.length
  | [], a, x => by simp [aput, aidx, total, takenOf, aget]
  | p :: L, a, x => by
    have ih := total_put L a x
    unfold takenOf at ih ⊢
    rw [aput_cons, aget_cons]
    cases h : p.1 == a
    · simp only [Bool.false_eq_true, if_false, total]
      rw [ih]; omega
    · have e : p.1 = a := by simpa using h
      simp only [if_true, total]
      rw [e]; omega
theorem total_del : ∀ (L : Texts) (a : List UInt8), total (adel L a) = total L - takenOf L a
  | [], a => by simp [adel, total, takenOf, aget]
  | p :: L, a => by
    have ih := total_del L a
    unfold takenOf at ih ⊢
    rw [adel_cons, aget_cons]
    cases h : p.1 == a
    · simp only [Bool.false_eq_true, if_false, total]
      rw [ih]; omega
    · have e : p.1 = a := by simpa using h
      simp only [if_true, total]
      rw [e]; omega
theorem total_nonneg : ∀ (L : Texts), 0 ≤ total L
  | [] => by simp [total]
  | p :: L => by have := total_nonneg L; simp only [total]; omega

/-- What holds of the texts at all times. -/
structure TInv (L : Texts) (u : Int) : Prop where
  short : ∀ p ∈ L, p.2.length ≤ 100
  sum : u = total L
  most : u ≤ 400

theorem TInv.nil : TInv [] 0 := ⟨by simp, rfl, by omega⟩
theorem TInv.low {L : Texts} {u : Int} (h : TInv L u) : 0 ≤ u := by rw [h.sum]; exact total_nonneg L
theorem mem_aput {L : Texts} {a x : List UInt8} : ∀ p ∈ aput L a x, p = (a, x) ∨ p ∈ L := by
  intro p hp
  unfold aput at hp
  split at hp
  · rcases List.mem_or_eq_of_mem_set hp with h | h
    · exact Or.inr h
    · exact Or.inl h
  · rcases List.mem_append.1 hp with h | h
    · exact Or.inr h
    · exact Or.inl (by simpa using h)
theorem takenOf_nonneg (L : Texts) (a : List UInt8) : 0 ≤ takenOf L a := by unfold takenOf; split <;> omega

theorem TInv.reply {L : Texts} {u : Int} (h : TInv L u) (q : Req) (hq : q.body.length ≤ 100) : TInv (replyL L u q) (replyU L u q) := by
  unfold replyL replyU serveL serveU putL putU
  by_cases h0 : q.fault = 0
  · rw [if_pos h0, if_pos h0]
    by_cases h1 : q.method = mGet
    · rw [if_pos h1, if_pos h1]; exact h
    rw [if_neg h1, if_neg h1]
    by_cases h2 : q.method = mHead
    · rw [if_pos h2, if_pos h2]; exact h
    rw [if_neg h2, if_neg h2]
    by_cases h3 : q.method = mPut
    · rw [if_pos h3, if_pos h3]
      by_cases h4 : usedWith L u q.target q.body ≤ 400
      · rw [if_pos h4, if_pos h4]
        refine ⟨fun p hp => ?_, ?_, h4⟩
        · rcases mem_aput p hp with rfl | h5
          · exact hq
          · exact h.short p h5
        · rw [total_put]; unfold usedWith; rw [h.sum]
      · rw [if_neg h4, if_neg h4]; exact h
    rw [if_neg h3, if_neg h3]
    by_cases h4 : q.method = mDel
    · rw [if_pos h4, if_pos h4]
      refine ⟨fun p hp => h.short p ((List.eraseIdx_sublist _ _).subset hp), ?_, ?_⟩
      · rw [total_del, h.sum]
      · have := takenOf_nonneg L q.target; have := h.most; omega
    · rw [if_neg h4, if_neg h4]; exact h
  · rw [if_neg h0, if_neg h0]; exact h

theorem aget_short {L : Texts} (h : ∀ p ∈ L, p.2.length ≤ 100) {a x : List UInt8} (e : aget L a = some x) : x.length ≤ 100 := by
  unfold aget at e
  obtain ⟨p, hp, rfl⟩ := Option.map_eq_some_iff.1 e
  exact h p (List.mem_of_getElem? hp)

def Ans.Small (a : Ans) : Prop := a.status.length ≤ 100 ∧ a.length ≤ 100 ∧ a.text.length ≤ 100

theorem small_get {L : Texts} (h : ∀ p ∈ L, p.2.length ≤ 100) (t : List UInt8) : (getAns L t).Small := by
  unfold getAns
  split
  · rename_i x e
    have := aget_short h e
    exact ⟨by show st200.length ≤ 100; decide, this, this⟩
  · exact ⟨by decide, by decide, by decide⟩

theorem TInv.small {L : Texts} {u : Int} (h : TInv L u) (dr : Bool) (q : Req) : (replyAns L u dr q).Small := by
  unfold replyAns
  split
  · show (serveAns L u q).Small
    unfold serveAns putAns delAns
    have hg := small_get h.short q.target
    repeat' split
    all_goals first | exact hg | exact ⟨hg.1, hg.2.1, Nat.zero_le _⟩ | exact ⟨by decide, by decide, by decide⟩
  · unfold faultSt
    refine ⟨?_, Nat.zero_le _, Nat.zero_le _⟩
    show (if q.fault = 2 then st413 else if q.fault = 3 then st431 else st400).length ≤ 100
    repeat' split
    all_goals decide

/-- What holds of a connection at all times. -/
structure CInv (x : CX) : Prop where
  rd : RInv 0 x.σ
  tag : x.σ.tag ≠ 0
  kind : x.kind ≤ 2

theorem CInv.ofRd {x : CX} (h : CInv x) : RInv 0 x.rd ∧ x.rd.tag ≠ 0 := by
  unfold CX.rd
  split
  · exact ⟨RInv.start, by decide⟩
  · exact ⟨h.rd, h.tag⟩
theorem CInv.read {x : CX} (h : CInv x) (b : UInt8) : RInv 0 (x.rd.read b) := h.ofRd.1.read h.ofRd.2 b
theorem CInv.next {x : CX} (h : CInv x) (L : Texts) (u : Int) (dr : Bool) (b : UInt8) : CInv (x.next L u dr b) := by
  unfold CX.next
  split
  · exact ⟨h.rd, h.tag, by show (if _ then 2 else 0) ≤ 2; split <;> omega⟩
  · rename_i h1
    exact ⟨h.read b, h1, by show 1 ≤ 2; omega⟩
theorem next_unread {x : CX} (L : Texts) (u : Int) (dr : Bool) (b : UInt8) : (x.next L u dr b).unread = x.unread := by
  unfold CX.next
  split <;> rfl
theorem CInv.nextT {x : CX} (h : CInv x) {L : Texts} {u : Int} (ht : TInv L u) (b : UInt8) : TInv (x.nextL L u b) (x.nextU L u b) := by
  unfold CX.nextL CX.nextU
  by_cases e : (x.rd.read b).tag = 0
  · rw [if_pos e, if_pos e]
    exact ht.reply _ (h.read b).lens.2.2.2.2.2
  · rw [if_neg e, if_neg e]; exact ht
theorem next_out {x : CX} {L : Texts} {u : Int} (ht : TInv L u) (dr : Bool) (b : UInt8) : ∃ l, (x.next L u dr b).out = x.out ++ l ∧ l.length ≤ 400 := by
  unfold CX.next
  split
  · have hs := ht.small dr (x.rd.read b).req
    exact ⟨_, rfl, bytes_len _ hs.1 hs.2.1 hs.2.2⟩
  · exact ⟨[], by simp, by simp⟩

/-- Server.read: a byte is read, at any time. -/
theorem sread_any {N : Nat} {F : Nat → Prop} {w : World} {c S s m cm made : Nat} {dr : Bool} {x : CX} {dv uv ov : Value} {L : Texts} {u : Int} (h : Hid (Cn F w c x dv uv ov)) (hs : Hid (SrvT w S s m cm made dr L u)) (dS : ¬ F S) (ds : ¬ F s) (dm : ¬ F m)
    (hi : Hid (CInv x)) (ht : Hid (TInv L u)) (hk : x.kind ≠ 2) (b : UInt8) (hout : x.out.length ≤ 100000) (hT : Hid (Tb N w)) (hN : Hid ((∀ k, F k → N ≤ k) ∧ N ≤ s ∧ N ≤ m ∧ N ≤ w.heap.size)) :
    Calls Tryz.prog 32 #[.pointer (some ⟨S, 0, none⟩), .pointer (some ⟨c, 0, none⟩), .int .u8 b.toNat] w fun e w' => e = .returned (.tuple #[]) ∧ ReadX F w w' c S s m cm made dr (x.next L u dr b) (x.nextL L u b) (x.nextU L u b) := by
  have hr := hi.out.read b
  have hc := hi.out.rd.count hi.out.tag
  by_cases e : (x.rd.read b).tag = 0
  · exact sread_over h hs dS ds dm hk (by omega) b (hid hr.good) e hr.lens.2.2.2.2.2 (hid ht.out.short) (by have := ht.out.low; omega) (by have := ht.out.most; omega) hout hT hN (hid (ht.out.small dr _))
  · exact sread_more h hs dS ds dm hk (by omega) b (hid hr.good) e

end Go.Proofs.YtkhlhokolfaieaaGreatDoor
