/- Plain words on messages: which may be, what one is when it was tried once more, its bytes, what is read of bytes. Nothing of the program. -/
import Derived.Test.YtlapicjbnheioaaBPure
import Derived.Test.YtlapicjbnheioaaTrdP
set_option maxRecDepth 4000
namespace Go.Proofs.Ytlapicjbnheioaa
def idB (i : Int) : Bool := decide (1 ≤ i) && decide (i ≤ 1099511627776)
def priB (p : Int) : Bool := decide (-1000 ≤ p) && decide (p ≤ 1000)
def retryB (r : Int) : Bool := decide (0 ≤ r) && decide (r ≤ 1000)
def corrB (c : ByteArray) : Bool := decide ((c.size : Int) ≤ 40)
def bodyB (b : ByteArray) : Bool := decide ((b.size : Int) ≤ 100)
def Mg.right (m : Mg) : Bool := idB m.id && priB m.pri && retryB m.retry && corrB m.corr && bodyB m.body
/-- its bytes behind others -/
def Mg.onto (m : Mg) (bs : List UInt8) : List UInt8 := bs ++ encInt m.id ++ encInt m.pri ++ encInt m.retry ++ encFlag m.claimed ++ encText m.corr.data.toList ++ encText m.body.data.toList
def Mg.bytes (m : Mg) : List UInt8 := m.onto []
/-- what a reader reads next as a message, and what is left of it -/
def Rd.msgR (r : Rd) : Rd := r.int.2.int.2.int.2.flag.2.text.2.text.2
def Rd.msgV (r : Rd) : Mg := ⟨r.int.1, r.int.2.int.1, r.int.2.int.2.int.1, r.int.2.int.2.int.2.flag.1, ⟨r.int.2.int.2.int.2.flag.2.text.1.toArray⟩, ⟨r.int.2.int.2.int.2.flag.2.text.2.text.1.toArray⟩⟩
def Rd.msg (r : Rd) : Mg := if r.msgR.bad = true then Mg.zero else r.msgV
theorem Mg.onto_len (m : Mg) (bs : List UInt8) (hc : m.corr.size ≤ 9000) (hb : m.body.size ≤ 9000) : (m.onto bs).length = bs.length + 29 + m.corr.size + m.body.size := by
  have e1 : m.corr.data.toList.length = m.corr.size := rfl
  have e2 : m.body.data.toList.length = m.body.size := rfl
  have t1 : m.corr.data.toList.take 65535 = m.corr.data.toList := List.take_of_length_le (by omega)
  have t2 : m.body.data.toList.take 65535 = m.body.data.toList := List.take_of_length_le (by omega)
  simp only [Mg.onto, List.length_append, encInt_len, encFlag_len, encText_len, t1, t2, e1, e2]
  omega
theorem text_whole (s : ByteArray) (hs : s.size ≤ 9000) (y : List UInt8) : (⟨encText s.data.toList ++ y, false⟩ : Rd).text = (s.data.toList, ⟨y, false⟩) := by
  rw [text_front, List.take_of_length_le (by have : s.data.toList.length = s.size := rfl; omega)]
theorem bytes_of_list (s : ByteArray) : (⟨s.data.toList.toArray⟩ : ByteArray) = s := by simp
/-- a message is read as it was written, and what is behind it is left -/
theorem msg_front (m : Mg) (hf : m.fits) (hc : m.corr.size ≤ 9000) (hb : m.body.size ≤ 9000) (y : List UInt8) : (⟨m.bytes ++ y, false⟩ : Rd).msgR = ⟨y, false⟩ ∧ (⟨m.bytes ++ y, false⟩ : Rd).msgV = m := by
  obtain ⟨i, p, r, cl, c, b⟩ := m
  obtain ⟨⟨h1, h2⟩, ⟨h3, h4⟩, ⟨h5, h6⟩⟩ := hf
  simp only at h1 h2 h3 h4 h5 h6 hc hb
  have e : (⟨i, p, r, cl, c, b⟩ : Mg).bytes ++ y = encInt i ++ (encInt p ++ (encInt r ++ (encFlag cl ++ (encText c.data.toList ++ (encText b.data.toList ++ y))))) := by
    simp [Mg.bytes, Mg.onto]
  rw [e]
  unfold Rd.msgR Rd.msgV
  simp only [int_front _ _ h1 h2, int_front _ _ h3 h4, int_front _ _ h5 h6, flag_front, text_whole _ hc, text_whole _ hb, bytes_of_list, and_self]
theorem msg_back (m : Mg) (hf : m.fits) (hc : m.corr.size ≤ 9000) (hb : m.body.size ≤ 9000) : (⟨m.bytes, false⟩ : Rd).msg = m ∧ (⟨m.bytes, false⟩ : Rd).msgR.done = true ∧ (⟨m.bytes, false⟩ : Rd).msgR.bad = false := by
  have h := msg_front m hf hc hb []
  rw [List.append_nil] at h
  unfold Rd.msg
  rw [h.1, h.2]
  exact ⟨rfl, rfl, rfl⟩
end Go.Proofs.Ytlapicjbnheioaa
