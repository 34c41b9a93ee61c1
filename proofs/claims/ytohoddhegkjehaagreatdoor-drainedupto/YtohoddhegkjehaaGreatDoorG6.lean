import Derived.Test.YtohoddhegkjehaaGreatDoorG4
import Derived.Test.YtohoddhegkjehaaGreatDoorJ1
/-
  Server.receive: bytes come over a connection.
-/
namespace Go.Proofs.YtohoddhegkjehaaGreatDoor
open Go.RowKit Go.MapKept

theorem bytes_len2 (a : Ans) (h1 : a.status.length ≤ 35) (h2 : a.length ≤ 100) (h3 : a.text.length ≤ 100) : a.bytes.length ≤ 200 := by
  have hi := itoa_len a.length h2
  unfold Ans.bytes httpL crlf clL ccL
  simp only [List.length_append]
  split <;> split <;> simp <;> omega

theorem status_get (L : Texts) (t : List UInt8) : (getAns L t).status.length ≤ 35 := by
  unfold getAns
  split
  · show st200.length ≤ 35; decide
  · show st404.length ≤ 35; decide
theorem status_len (L : Texts) (u : Int) (dr : Bool) (q : Req) : (replyAns L u dr q).status.length ≤ 35 := by
  unfold replyAns
  split
  · show (serveAns L u q).status.length ≤ 35
    unfold serveAns putAns delAns
    have hg := status_get L q.target
    repeat' split
    all_goals first | exact hg | exact (by decide)
  · unfold faultSt
    show (if q.fault = 2 then st413 else if q.fault = 3 then st431 else st400).length ≤ 35
    repeat' split
    all_goals decide
theorem next_out2 {x : CX} {L : Texts} {u : Int} (ht : TInv L u) (dr : Bool) (b : UInt8) : ∃ l, (x.next L u dr b).out = x.out ++ l ∧ l.length ≤ 200 := by
  unfold CX.next
  split
  · have hs := ht.small dr (x.rd.read b).req
    exact ⟨_, rfl, bytes_len2 _ (status_len _ _ _ _) hs.2.1 hs.2.2⟩
  · exact ⟨[], by simp, by simp⟩

/-- What holds of a connection and the texts at all times. -/
structure CsI (x : Cs) : Prop where
  ci : CInv x.cx
  ti : TInv x.L x.u
  out : x.cx.out.length ≤ 449

theorem CsI.read {x : Cs} (h : CsI x) (dr : Bool) (hg : x.goes) (b : UInt8) : CsI (x.read dr b) := by
  refine ⟨h.ci.next _ _ _ _, h.ci.nextT h.ti b, ?_⟩
  obtain ⟨l, h1, h2⟩ := next_out2 (x := x.cx) h.ti dr b
  show (x.cx.next x.L x.u dr b).out.length ≤ 449
  rw [h1, List.length_append]
  have := hg.2
  omega
theorem CsI.ate (dr : Bool) : ∀ (l : List UInt8) (x : Cs) (_ : CsI x) (k : Nat), k ≤ x.ate dr l → CsI (x.reads dr (l.take k))
  | [], x, h, k, _ => by rw [List.take_nil]; exact h
  | b :: l, x, h, 0, _ => h
  | b :: l, x, h, k + 1, hk => by
    unfold Cs.ate at hk
    by_cases hg : x.goes
    · rw [if_pos hg] at hk
      exact CsI.ate dr l (x.read dr b) (h.read dr hg b) k (by omega)
    · rw [if_neg hg] at hk; omega
theorem CsI.admit {x : Cs} (h : CsI x) (l : List UInt8) : CsI (x.admit l) := by
  unfold Cs.admit
  split
  · exact h
  · exact ⟨⟨h.ci.rd, h.ci.tag, h.ci.kind⟩, h.ti, h.out⟩
theorem CsI.got {x : Cs} (h : CsI x) (dr : Bool) (l : List UInt8) : CsI (x.got dr l) := (CsI.ate dr l x h _ (Nat.le_refl _)).admit _
theorem CsI.take {x : Cs} (h : CsI x) (dr : Bool) (n : Nat) : CsI (x.take dr n) := by
  unfold Cs.take
  refine CsI.got (x := { x with cx := { x.cx with out := x.cx.out.drop n, unread := [] } }) ⟨⟨h.ci.rd, h.ci.tag, h.ci.kind⟩, h.ti, ?_⟩ dr _
  show (x.cx.out.drop n).length ≤ 449
  have := h.out
  simp
  omega

theorem cs_reads_succ (dr : Bool) (x : Cs) (s : ByteArray) (k : Nat) (h : k < s.size) : x.reads dr (s.data.toList.take (k + 1)) = (x.reads dr (s.data.toList.take k)).read dr s[k] := by
  have hk : k < s.data.toList.length := by rw [Array.length_toList]; exact h
  unfold Cs.reads
  rw [List.take_succ_eq_append_getElem hk, List.foldl_append]
  rfl

theorem ReadX.trans {F F1 : Nat → Prop} {w w1 w2 : World} {c S s m cm made : Nat} {dr : Bool} {x : CX} {L : Texts} {u : Int} (hu : Upd (fun k => F k ∨ k = s ∨ k = m) w w1) (hf : ∀ k, F1 k → F k ∨ (w.heap.size ≤ k ∧ k < w1.heap.size)) (h : ReadX F1 w1 w2 c S s m cm made dr x L u) : ReadX F w w2 c S s m cm made dr x L u := by
  obtain ⟨F2, dv, uv, ov, h1, hs, h2, h3⟩ := h
  refine ⟨F2, dv, uv, ov, h1, hs, ⟨h2.os.trans hu.os, h2.tape.trans hu.tape, h2.output.trans hu.output, Nat.le_trans hu.size h2.size, fun k hk hn => (h2.block k (Nat.lt_of_lt_of_le hk hu.size) (fun e => ?_)).trans (hu.block k hk hn)⟩, fun k hk => ?_⟩
  · rcases e with e | e
    · rcases hf k e with h4 | h4
      · exact hn (Or.inl h4)
      · omega
    · exact hn (Or.inr e)
  · rcases h3 k hk with h4 | h4
    · rcases hf k h4 with h5 | h5
      · exact Or.inl h5
      · right; have := h2.size; omega
    · right; have := hu.size; omega

theorem ReadX.ofConn {F : Nat → Prop} {w w1 : World} {c S s m cm made : Nat} {dr : Bool} {x : CX} {L : Texts} {u : Int} (hs : SrvT w S s m cm made dr L u) (dS : ¬ F S) (ds : ¬ F s) (dm : ¬ F m) (h : ConnX F w w1 c x) : ReadX F w w1 c S s m cm made dr x L u := by
  obtain ⟨F2, dv, uv, ov, h1, h2, h3⟩ := h
  exact ⟨F2, dv, uv, ov, h1, hs.keep h2 dS ds dm, h2.mono (fun k _ e => Or.inl e), h3⟩

/-- What a call on a connection asks of where it lies. -/
structure Lies (N : Nat) (F : Nat → Prop) (w : World) (S s m : Nat) : Prop where
  dS : ¬ F S
  ds : ¬ F s
  dm : ¬ F m
  low : ∀ k, F k → N ≤ k
  ns : N ≤ s
  nm : N ≤ m
  nw : N ≤ w.heap.size
  lt : S < w.heap.size ∧ s < w.heap.size ∧ m < w.heap.size
  tb : Tb N w

theorem Lies.step {N : Nat} {F F1 : Nat → Prop} {w w1 : World} {S s m : Nat} (h : Lies N F w S s m) (hu : Upd (fun k => F k ∨ k = s ∨ k = m) w w1) (hf : ∀ k, F1 k → F k ∨ (w.heap.size ≤ k ∧ k < w1.heap.size)) : Lies N F1 w1 S s m := by
  have hsz := hu.size
  have hl := h.lt
  have hnw := h.nw
  refine ⟨fun e => ?_, fun e => ?_, fun e => ?_, fun k hk => ?_, h.ns, h.nm, by omega, by omega, h.tb.keep (hu.below h.nw ?_)⟩
  · rcases hf _ e with h1 | h1
    · exact h.dS h1
    · omega
  · rcases hf _ e with h1 | h1
    · exact h.ds h1
    · omega
  · rcases hf _ e with h1 | h1
    · exact h.dm h1
    · omega
  · rcases hf k hk with h1 | h1
    · exact h.low k h1
    · omega
  · rintro k hk (h1 | rfl | rfl)
    · have := h.low k h1; omega
    · have := h.ns; omega
    · have := h.nm; omega
theorem Lies.same {N : Nat} {F : Nat → Prop} {w w1 : World} {S s m : Nat} (h : Lies N F w S s m) (hu : Same w w1) : Lies N F w1 S s m := h.step (hu.mono (fun _ _ h => h.elim)) (fun _ hk => Or.inl hk)

set_option maxHeartbeats 1600000 in
set_option maxRecDepth 100000 in
theorem receive_any {N : Nat} {F : Nat → Prop} {w : World} {c S s m cm made : Nat} {dr : Bool} {x : CX} {dv uv ov : Value} {L : Texts} {u : Int} (h : Hid (Cn F w c x dv uv ov)) (hs : Hid (SrvT w S s m cm made dr L u)) (hl : Hid (Lies N F w S s m)) (hi : Hid (CsI ⟨x, L, u⟩)) (hun : x.unread.length ≤ 300) (bs : ByteArray) (hb : bs.size ≤ 4000000) :
    Calls Tryz.prog 31 #[.pointer (some ⟨S, 0, none⟩), .pointer (some ⟨c, 0, none⟩), .string bs] w fun e w' => e = .returned (.int .i64 (Cs.gets dr ⟨x, L, u⟩ bs.data.toList : Nat)) ∧ ReadX F w w' c S s m cm made dr (Cs.got dr ⟨x, L, u⟩ bs.data.toList).cx (Cs.got dr ⟨x, L, u⟩ bs.data.toList).L (Cs.got dr ⟨x, L, u⟩ bs.data.toList).u := by
  have HL : Hid (bs.data.toList.length = bs.size) := by show _ = _; rw [Array.length_toList]; rfl
  have hle := ate_le dr bs.data.toList ⟨x, L, u⟩
  rw [HL.out] at hle
  have HG := hid (ate_goes dr bs.data.toList ⟨x, L, u⟩)
  have HS := hid (ate_stops dr bs.data.toList ⟨x, L, u⟩)
  have HI := hid (CsI.ate dr bs.data.toList ⟨x, L, u⟩ hi.out)
  have HU := hid (fun k => cs_reads_unread dr (bs.data.toList.take k) ⟨x, L, u⟩)
  unfold Cs.gets Cs.got
  generalize hA : Cs.ate dr ⟨x, L, u⟩ bs.data.toList = A at *
  go_enter Tryz.func31, Tryz.ntmps31
  go_wp2_with fail
  go_loopw [7] (fun i wr => ∃ k : Nat, i = .int .i64 k ∧ k ≤ A ∧ Hid (ReadX F w wr c S s m cm made dr (Cs.reads dr ⟨x, L, u⟩ (bs.data.toList.take k)).cx (Cs.reads dr ⟨x, L, u⟩ (bs.data.toList.take k)).L (Cs.reads dr ⟨x, L, u⟩ (bs.data.toList.take k)).u)) (fun i _ => bs.size - (intOf i).toNat)
  case atStart => exact ⟨0, rfl, Nat.zero_le _, F, dv, uv, ov, h.out, hs.out, Upd.refl _ _, fun k hk => Or.inl hk⟩
  case round =>
    obtain ⟨k, rfl, hk, hat⟩ := hrel
    obtain ⟨F1, dv1, uv1, ov1, h1, hs1, h2, h3⟩ := hat.out
    clear hat
    have HZ := hid (HI.out k hk)
    have HN : Hid (∀ hlt : k < bs.size, Cs.reads dr ⟨x, L, u⟩ (bs.data.toList.take (k + 1)) = (Cs.reads dr ⟨x, L, u⟩ (bs.data.toList.take k)).read dr bs[k]) := fun hlt => cs_reads_succ dr _ bs k hlt
    have HUk := hid (HU.out k)
    have HGk := hid (HG.out k)
    have HSk : Hid (k = A → k < bs.size → ¬ (Cs.reads dr ⟨x, L, u⟩ (bs.data.toList.take k)).goes) := by
      intro e hlt; rw [e]; exact HS.out (by rw [HL.out]; omega)
    have HEq : Hid (k = A → Cs.reads dr ⟨x, L, u⟩ (bs.data.toList.take k) = Cs.reads dr ⟨x, L, u⟩ (bs.data.toList.take A)) := fun e => by rw [e]
    generalize hz : Cs.reads dr ⟨x, L, u⟩ (bs.data.toList.take k) = z at *
    have H1 := hid h1
    have HS1 := hid hs1
    have H2 := hid h2
    have H3 := hid h3
    have HL1 := hid (hl.out.step h2 h3)
    have hzo := HZ.out.out
    clear h1 hs1 h2 h3 hz HU HG HS HI h hs
    by_cases hlt : k < A
    · have hls : k < bs.size := by omega
      have hE := HGk.out hlt
      have HR := hid (reads_any H1 (by omega))
      have HD : Hid (decide (z.cx.kind ≠ 2 ∧ z.cx.out.length < 250) = true) := decide_eq_true hE
      rw [HD.out] at HR
      go_wp2_with fail
      refine HR.out.mono ?_
      rintro e w1 ⟨rfl, hu1⟩
      have HC1 := hid (H1.out.keep hu1 (fun _ _ h => h))
      have HT1 := hid (HS1.out.keep hu1 (fun h => h) (fun h => h) (fun h => h))
      have HL2 := HL1.out.same hu1
      have HU1 := hid hu1
      clear hu1
      have HRd := hid (sread_any (N := N) HC1 HT1 HL2.dS HL2.ds HL2.dm (hid HZ.out.ci) (hid HZ.out.ti) hE.1 bs[k] (by omega) (hid HL2.tb) (hid ⟨HL2.low, HL2.ns, HL2.nm, HL2.nw⟩))
      clear HL2
      go_wp2_with fail
      refine HRd.out.mono ?_
      rintro e w2 ⟨rfl, hr2⟩
      have HE : Hid (ReadX F w w2 c S s m cm made dr (Cs.reads dr ⟨x, L, u⟩ (bs.data.toList.take (k + 1))).cx (Cs.reads dr ⟨x, L, u⟩ (bs.data.toList.take (k + 1))).L (Cs.reads dr ⟨x, L, u⟩ (bs.data.toList.take (k + 1))).u) := by
        show ReadX _ _ _ _ _ _ _ _ _ _ _ _ _
        rw [HN.out hls]
        exact ReadX.trans H2.out H3.out (ReadX.trans (HU1.out.mono (fun _ _ h => h.elim)) (fun k hk => Or.inl hk) hr2)
      clear hr2
      go_wp2
      exact ⟨⟨k + 1, by go_num, by omega, HE⟩, by simp [intOf]; omega⟩
    · have hkA : k = A := by omega
      subst hkA
      have HX : Hid ((bs.extract k bs.size).data.toList = bs.data.toList.drop k) := by
        show _ = _
        simp only [ByteArray.data_extract, Array.toList_extract]
        rw [List.extract_eq_take_drop, List.take_of_length_le]
        rw [List.length_drop, HL.out]
        omega
      have hxs : (bs.extract k bs.size).size ≤ 4000000 := by
        have := congrArg List.length HX.out
        rw [List.length_drop, HL.out] at this
        have e2 : (bs.extract k bs.size).data.toList.length = (bs.extract k bs.size).size := by rw [Array.length_toList]; rfl
        omega
      have hzu : z.cx.unread.length ≤ 300 := by rw [HUk.out]; exact hun
      have HP : Hid (∀ W, Same wr W → Calls Tryz.prog 46 #[.pointer (some ⟨c, 0, none⟩), .string (bs.extract k bs.size)] W fun e w' => e = .returned (.int .i64 ((Cs.reads dr ⟨x, L, u⟩ (bs.data.toList.take k)).admits (bs.data.toList.drop k) : Nat)) ∧ ReadX F w w' c S s m cm made dr ((Cs.reads dr ⟨x, L, u⟩ (bs.data.toList.take k)).admit (bs.data.toList.drop k)).cx ((Cs.reads dr ⟨x, L, u⟩ (bs.data.toList.take k)).admit (bs.data.toList.drop k)).L ((Cs.reads dr ⟨x, L, u⟩ (bs.data.toList.take k)).admit (bs.data.toList.drop k)).u) := by
        intro W hW
        rw [← HEq.out rfl]
        refine (putAside_any (hid (H1.out.keep hW (fun _ _ h => h))) hzu (bs.extract k bs.size) hxs).mono ?_
        rw [HX.out]
        rintro e w2 ⟨rfl, hc⟩
        have HLW := HL1.out.same hW
        have hr := ReadX.trans H2.out H3.out (ReadX.trans (hW.mono (fun _ _ h => h.elim)) (fun k hk => Or.inl hk) (ReadX.ofConn (HS1.out.keep hW (fun h => h) (fun h => h) (fun h => h)) HLW.dS HLW.ds HLW.dm hc))
        refine ⟨rfl, ?_⟩
        unfold Cs.admit
        split
        · rename_i h2; rw [if_pos h2] at hr; exact hr
        · rename_i h2; rw [if_neg h2] at hr; exact hr
      have hadm : (Cs.reads dr ⟨x, L, u⟩ (bs.data.toList.take k)).admits (bs.data.toList.drop k) ≤ 300 := by
        unfold Cs.admits
        split <;> omega
      generalize hnq : (Cs.reads dr ⟨x, L, u⟩ (bs.data.toList.take k)).admits (bs.data.toList.drop k) = n at *
      generalize hyq : (Cs.reads dr ⟨x, L, u⟩ (bs.data.toList.take k)).admit (bs.data.toList.drop k) = y at *
      have HNQ := hid hnq
      have HYQ := hid hyq
      clear hnq hyq
      by_cases hsz : k < bs.size
      · have hE := HSk.out rfl hsz
        have HR := hid (reads_any H1 (by omega))
        have HD : Hid (decide (z.cx.kind ≠ 2 ∧ z.cx.out.length < 250) = false) := decide_eq_false hE
        rw [HD.out] at HR
        clear HZ HN HUk HGk HSk HEq hE
        go_wp2_with fail
        refine HR.out.mono ?_
        rintro e w1 ⟨rfl, hu1⟩
        have HP1 := hid (HP.out w1 hu1)
        clear hu1
        go_wp2_with fail
        refine HP1.out.mono ?_
        rintro e w2 ⟨rfl, hr⟩
        have HE := hid hr
        clear hr
        go_wp2
        go_ret
        obtain rfl := HNQ.out
        obtain rfl := HYQ.out
        exact ⟨by first | rfl | exact ret_int (by simp), HE.out⟩
      · have HP1 := hid (HP.out wr (Upd.refl _ _))
        clear HZ HN HUk HGk HSk HEq
        go_wp2_with fail
        refine HP1.out.mono ?_
        rintro e w2 ⟨rfl, hr⟩
        have HE := hid hr
        clear hr
        go_wp2
        go_ret
        obtain rfl := HNQ.out
        obtain rfl := HYQ.out
        exact ⟨by first | rfl | exact ret_int (by simp), HE.out⟩

end Go.Proofs.YtohoddhegkjehaaGreatDoor
