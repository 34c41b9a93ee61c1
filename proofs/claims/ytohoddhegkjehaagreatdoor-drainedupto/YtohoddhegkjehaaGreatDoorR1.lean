import Derived.Test.YtohoddhegkjehaaGreatDoorL1
/-
  Drain, Tick; how much is kept at most; what is answered behind Drain.
-/
namespace Go.Proofs.YtohoddhegkjehaaGreatDoor
open Go.RowKit Go.MapKept

set_option maxHeartbeats 400000 in
theorem tick_any (S : Nat) (w : World) : Calls Tryz.prog 33 #[.pointer (some ⟨S, 0, none⟩)] w fun e w' => e = .returned (.tuple #[]) ∧ Same w w' := by
  go_enter Tryz.func33, Tryz.ntmps33
  go_wp2
  exact bodyPost_end (v := .tuple #[]) (by simp [results, Tryz.results33, go_sem]) rfl ⟨rfl, Upd.refl _ _⟩

theorem Sv.drained {N : Nat} {F : Nat → Prop} {Fs : Int → Nat → Prop} {w : World} {S : Nat} {p : Ps} {x : Xs} (h : Sv N F Fs w S p x) : SvX N F w (w.setCell ⟨S, 2, none⟩ (.bool true)) S p { x with dr := true } := by
  have U := Upd.one w S 2 (.bool true)
  have hns : p.s ≠ S := fun e => by have := h.srv.sto.blk; rw [e, h.srv.blk] at this; simp at this
  have hnm : p.m ≠ S := fun e => by obtain ⟨es', cl', h3, _⟩ := h.srv.sto.map; rw [e, h.srv.blk] at h3; simp at h3
  have hS := h.low S h.own.1
  refine ⟨F, Fs, ⟨⟨?_, h.srv.sto.keep U hns hnm⟩, h.cms.keep U h.nes.2, h.nd, ?_, h.sub, h.dis, h.own, h.off, h.ne, ?_, ?_, h.ki, h.ti, h.ids, h.few⟩, U.mono (by rintro k _ rfl; exact h.own.1), fun k hk => Or.inl hk⟩
  · have := heap_setCell h.srv.blk 2 (.bool true)
    simpa using this
  · intro e he
    obtain ⟨dv, uv, ov, hc⟩ := h.cn e he
    exact ⟨dv, uv, ov, hc.keep U (by rintro k hk rfl; exact (h.off e he).1 hk)⟩
  · intro k hk
    rw [size_setCell]
    exact h.low k hk
  · exact h.tb.keep (U.below (by omega) (by rintro k hk rfl; omega))

set_option maxHeartbeats 400000 in
theorem drain_any {N : Nat} {F : Nat → Prop} {Fs : Int → Nat → Prop} {w : World} {S : Nat} {p : Ps} {x : Xs} (h : Hid (Sv N F Fs w S p x)) :
    Calls Tryz.prog 17 #[.pointer (some ⟨S, 0, none⟩)] w fun e w' => e = .returned (.tuple #[]) ∧ SvX N F w w' S p { x with dr := true } := by
  have c2 : w.cell? ⟨S, 2, none⟩ = some (.bool x.dr) := cell_of_heap h.out.srv.blk 2
  have f2 : w.frozen? ⟨S, 2, none⟩ = false := unfrozen_of_heap h.out.srv.blk 2
  have HE := hid h.out.drained
  go_enter Tryz.func17, Tryz.ntmps17
  go_wp2
  exact bodyPost_end (v := .tuple #[]) (by simp [results, Tryz.results17, go_sem]) rfl ⟨rfl, HE.out⟩

/-- How many bytes are read of a request that is not over, at most. -/
theorem count_most {σ : RS} (h : RInv 0 σ) (h0 : σ.tag ≠ 0) : σ.count ≤ 1200 := by
  have hs := h.spec
  have ht := h.tags
  have hl := h.lens
  unfold specAt at hs
  split at hs <;> first | omega | exact hs.elim
theorem kept_most {x : CX} (h : KInv x) : x.kept ≤ 1950 := by
  have h1 := h.un
  have h2 := h.out
  have h3 := count_most h.ci.rd h.ci.tag
  unfold CX.kept CX.held
  split <;> omega
theorem keptSum_most : ∀ {K : Ks}, (∀ e ∈ K, KInv e.2.2) → 0 ≤ keptSum K ∧ keptSum K ≤ 1950 * K.length
  | [], _ => by simp [keptSum]
  | e :: K, h => by
    have ih := keptSum_most (K := K) (fun f hf => h f (List.mem_cons.2 (Or.inr hf)))
    have := kept_most (h e (List.mem_cons.2 (Or.inl rfl)))
    unfold keptSum at ih ⊢
    simp only [List.map_cons, List.sum_cons, List.length_cons]
    omega
theorem Sv.most {N : Nat} {F : Nat → Prop} {Fs : Int → Nat → Prop} {w : World} {S : Nat} {p : Ps} {x : Xs} (h : Sv N F Fs w S p x) : 0 ≤ x.u + keptSum x.K ∧ x.u + keptSum x.K ≤ 8200 := by
  have h1 := keptSum_most h.ki
  have h2 := h.few
  have h3 := h.ti.low
  have h4 := h.ti.most
  omega

/-- How many of the first m numbers are open. -/
def openOf (K : Ks) : Nat → Nat
  | 0 => 0
  | m + 1 => openOf K m + (if (aget K (m : Int)).isSome then 1 else 0)
theorem openOf_le (K : Ks) (m : Nat) : openOf K m ≤ K.length := by
  have key : openOf K m ≤ (K.filter (fun e => decide (e.1 < (m : Int)))).length := by
    induction m with
    | zero => simp [openOf]
    | succ m ih =>
      unfold openOf
      have hmono : ∀ (l : Ks), (l.filter (fun e => decide (e.1 < (m : Int)))).length + (if ∃ e ∈ l, e.1 = (m : Int) then 1 else 0) ≤ (l.filter (fun e => decide (e.1 < ((m + 1 : Nat) : Int)))).length := by
        intro l
        induction l with
        | nil => simp
        | cons e l ihl =>
          by_cases h1 : e.1 < (m : Int)
          · have h2 : e.1 < ((m + 1 : Nat) : Int) := by omega
            have h3 : (∃ f ∈ e :: l, f.1 = (m : Int)) ↔ ∃ f ∈ l, f.1 = (m : Int) := by
              constructor
              · rintro ⟨f, hf, hfe⟩
                rcases List.mem_cons.1 hf with rfl | hf
                · omega
                · exact ⟨f, hf, hfe⟩
              · rintro ⟨f, hf, hfe⟩
                exact ⟨f, List.mem_cons.2 (Or.inr hf), hfe⟩
            simp only [List.filter_cons, decide_eq_true h1, decide_eq_true h2, if_true, List.length_cons, h3]
            omega
          · by_cases h2 : e.1 = (m : Int)
            · have h3 : e.1 < ((m + 1 : Nat) : Int) := by omega
              have h4 : ∃ f ∈ e :: l, f.1 = (m : Int) := ⟨e, List.mem_cons.2 (Or.inl rfl), h2⟩
              simp only [List.filter_cons, decide_eq_false h1, decide_eq_true h3, if_true, List.length_cons, Bool.false_eq_true, if_false, if_pos h4]
              split at ihl <;> omega
            · have h3 : ¬ e.1 < ((m + 1 : Nat) : Int) := by omega
              have h4 : (∃ f ∈ e :: l, f.1 = (m : Int)) ↔ ∃ f ∈ l, f.1 = (m : Int) := by
                constructor
                · rintro ⟨f, hf, hfe⟩
                  rcases List.mem_cons.1 hf with rfl | hf
                  · exact absurd hfe h2
                  · exact ⟨f, hf, hfe⟩
                · rintro ⟨f, hf, hfe⟩
                  exact ⟨f, List.mem_cons.2 (Or.inr hf), hfe⟩
              simp only [List.filter_cons, decide_eq_false h1, decide_eq_false h3, Bool.false_eq_true, if_false, h4]
              exact ihl
      have := hmono K
      by_cases ho : (aget K (m : Int)).isSome = true
      · obtain ⟨q, hq⟩ := Option.isSome_iff_exists.1 ho
        rw [if_pos ⟨_, aget_mem hq, rfl⟩] at this
        rw [if_pos ho]
        omega
      · rw [if_neg ho]
        split at this <;> omega
  exact Nat.le_trans key (List.length_filter_le _ _)

theorem answer_last (L : Texts) (u : Int) (q : Req) : (replyAns L u true q).last = true := by
  unfold replyAns
  split
  · simp
  · rfl
/-- Behind Drain: nothing is answered, or one answer that is the last. -/
theorem run_last : ∀ (l : List UInt8) (x : Cs), CsI x → x.cx.out = [] → x.cx.kind ≠ 2 →
    ((x.run true l).2 = [] ∧ (x.run true l).1.cx.kind ≠ 2) ∨ ((x.run true l).1.cx.kind = 2 ∧ ∃ a : Ans, a.last = true ∧ a.bytes.length ≤ 200 ∧ (x.run true l).2 = a.bytes)
  | [], x, _, _, hk => Or.inl ⟨rfl, hk⟩
  | b :: l, x, h, ho, hk => by
    simp only [Cs.run]
    rw [if_neg hk]
    have hg : x.goes := ⟨hk, by rw [ho]; decide⟩
    have hi := h.read true hg b
    by_cases ht : (x.cx.rd.read b).tag = 0
    · have e1 : (x.read true b).cx.out = (replyAns x.L x.u true (x.cx.rd.read b).req).bytes := by
        show (x.cx.next x.L x.u true b).out = _
        unfold CX.next
        rw [if_pos ht, ho]
        rfl
      have e2 : (x.read true b).cx.kind = 2 := by
        show (x.cx.next x.L x.u true b).kind = 2
        unfold CX.next
        rw [if_pos ht]
        show (if (replyAns x.L x.u true (x.cx.rd.read b).req).last = true then 2 else 0) = 2
        rw [answer_last]
        rfl
      have e3 : (x.read true b).bare.cx.kind = 2 := e2
      rw [csrun_over true _ l e3]
      have hs := h.ti.small true (x.cx.rd.read b).req
      refine Or.inr ⟨e3, _, answer_last _ _ _, bytes_len2 _ (status_len _ _ _ _) hs.2.1 hs.2.2, ?_⟩
      simp only [List.append_nil]
      exact e1
    · have e1 : (x.read true b).cx.out = [] := by
        show (x.cx.next x.L x.u true b).out = _
        unfold CX.next
        rw [if_neg ht]
        exact ho
      have e2 : (x.read true b).cx.kind = 1 := by
        show (x.cx.next x.L x.u true b).kind = 1
        unfold CX.next
        rw [if_neg ht]
      rw [e1, List.nil_append]
      exact run_last l (x.read true b).bare hi.bare rfl (by show (x.read true b).cx.kind ≠ 2; rw [e2]; decide)

def sepL : List UInt8 := [13, 10, 67, 111, 110, 110, 101, 99, 116, 105, 111, 110, 58, 32, 99, 108, 111, 115, 101, 13, 10]
theorem bytes_last (a : Ans) (h : a.last = true) : (∃ r, a.bytes = httpL ++ r) ∧ ∃ p q, a.bytes = p ++ (sepL ++ q) := by
  unfold Ans.bytes
  rw [h]
  refine ⟨⟨_, by simp only [List.append_assoc]; rfl⟩, ?_⟩
  have e : sepL = crlf ++ ccL := rfl
  by_cases hs : a.status = st204
  · rw [if_pos hs]
    exact ⟨httpL ++ a.status, crlf ++ a.text, by rw [e]; simp [List.append_assoc]⟩
  · rw [if_neg hs]
    exact ⟨httpL ++ a.status ++ crlf ++ clL ++ Lib.itoa a.length, crlf ++ a.text, by rw [e]; simp [List.append_assoc]⟩

end Go.Proofs.YtohoddhegkjehaaGreatDoor
