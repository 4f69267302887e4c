"""Notes told from one hill to another by flags."""
