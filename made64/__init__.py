"""Whole numbers of 64 bits, and what they're made of."""
